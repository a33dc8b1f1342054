/-
  QB: JLay JX JLib JRead JTake JVal, side by side.
-/
import Derived.Shelf.Strings.Prefix
import Derived.Shelf.Strconv.Itoa3
import Derived.Shelf.Strconv.ErrVarAll
import Derived.Shelf.Small.Strs
import Derived.Shelf.Small.Wraps
import Derived.Shelf.Utf8.AppendRunePlain
import Derived.Shelf.Strings.SlTrimAscii
import Derived.Shelf.Unicode.DecodeAny
import Derived.Test.YthklgpflaghojaaGreatDoorProg
import Derived.Test.YthklgpflaghojaaGreatDoorQM
import Derived.Lib.AtoiErrMem
import Derived.Test.YthklgpflaghojaaGreatDoorQV

/-
  The library's functions at this program: where they stand in it.
-/
namespace Go.Proofs.YthklgpflaghojaaGreatDoor
open Go.Shelf
def lays103_ren : Go.Shelf.Ren := ⟨fun | 103 => 134 | 210 => 151 | 206 => 163 | n => n, fun | 9 => 9 | 4 => 4 | 24 => 57 | 3 => 3 | n => n, fun | n => n⟩
set_option maxRecDepth 100000 in
theorem lays103 : Go.Proofs.Lays.n103 Tryz.prog lays103_ren := {
  mixed := by kernel_rfl
  f103 := Tryz.func134.trans (congrArg some (by kernel_rfl))
  f206 := Tryz.func163.trans (congrArg some (by kernel_rfl))
  f210 := Tryz.func151.trans (congrArg some (by kernel_rfl))
  t3 := Tryz.underlying3
  a3 := Tryz.isAgg3
  z3 := Tryz.sizeOf3
  v3 := Tryz.zeroValue3
  t4 := Tryz.underlying4
  a4 := Tryz.isAgg4
  z4 := Tryz.sizeOf4
  v4 := Tryz.zeroValue4
  t9 := Tryz.underlying9
  a9 := Tryz.isAgg9
  z9 := Tryz.sizeOf9
  v9 := Tryz.zeroValue9
  t24 := Tryz.underlying57
  a24 := Tryz.isAgg57
  z24 := Tryz.sizeOf57
  v24 := Tryz.zeroValue57 }
def laysC172_ren : Go.Shelf.Ren := ⟨fun | 172 => 143 | 244 => 156 | 245 => 157 | 247 => 166 | 279 => 167 | 280 => 168 | 281 => 169 | 282 => 170 | 287 => 173 | 316 => 174 | 171 => 176 | 205 => 175 | 321 => 179 | 322 => 180 | 243 => 181 | 246 => 182 | 283 => 183 | 284 => 184 | 285 => 185 | 286 => 186 | 129 => 188 | 317 => 187 | 318 => 189 | 319 => 190 | 320 => 191 | 337 => 192 | 338 => 193 | n => n, fun | 9 => 9 | 3 => 3 | 75 => 165 | 76 => 166 | 4 => 4 | 5 => 5 | 167 => 186 | 37 => 27 | 0 => 0 | 85 => 187 | 2 => 2 | 168 => 189 | 53 => 136 | 175 => 193 | 46 => 84 | 210 => 196 | 127 => 200 | 145 => 203 | 143 => 201 | 21 => 21 | 171 => 205 | 173 => 208 | 212 => 211 | 51 => 101 | 20 => 20 | 213 => 212 | 232 => 70 | 233 => 112 | 80 => 85 | n => n, fun | 15 => 4 | 16 => 5 | 17 => 6 | 18 => 7 | 19 => 8 | n => n⟩
set_option maxRecDepth 100000 in
theorem laysC172 : Go.Proofs.LaysC.n172 Tryz.prog laysC172_ren := {
  mixed := by kernel_rfl
  f129 := Tryz.func188.trans (congrArg some (by kernel_rfl))
  f171 := Tryz.func176.trans (congrArg some (by kernel_rfl))
  f172 := Tryz.func143.trans (congrArg some (by kernel_rfl))
  f205 := Tryz.func175.trans (congrArg some (by kernel_rfl))
  f243 := Tryz.func181.trans (congrArg some (by kernel_rfl))
  f244 := Tryz.func156.trans (congrArg some (by kernel_rfl))
  f245 := Tryz.func157.trans (congrArg some (by kernel_rfl))
  f246 := Tryz.func182.trans (congrArg some (by kernel_rfl))
  f247 := Tryz.func166.trans (congrArg some (by kernel_rfl))
  f279 := Tryz.func167.trans (congrArg some (by kernel_rfl))
  f280 := Tryz.func168.trans (congrArg some (by kernel_rfl))
  f281 := Tryz.func169.trans (congrArg some (by kernel_rfl))
  f282 := Tryz.func170.trans (congrArg some (by kernel_rfl))
  f283 := Tryz.func183.trans (congrArg some (by kernel_rfl))
  f284 := Tryz.func184.trans (congrArg some (by kernel_rfl))
  f285 := Tryz.func185.trans (congrArg some (by kernel_rfl))
  f286 := Tryz.func186.trans (congrArg some (by kernel_rfl))
  f287 := Tryz.func173.trans (congrArg some (by kernel_rfl))
  f316 := Tryz.func174.trans (congrArg some (by kernel_rfl))
  f317 := Tryz.func187.trans (congrArg some (by kernel_rfl))
  f318 := Tryz.func189.trans (congrArg some (by kernel_rfl))
  f319 := Tryz.func190.trans (congrArg some (by kernel_rfl))
  f320 := Tryz.func191.trans (congrArg some (by kernel_rfl))
  f321 := Tryz.func179.trans (congrArg some (by kernel_rfl))
  f322 := Tryz.func180.trans (congrArg some (by kernel_rfl))
  f337 := Tryz.func192.trans (congrArg some (by kernel_rfl))
  f338 := Tryz.func193.trans (congrArg some (by kernel_rfl))
  t0 := Tryz.underlying0
  a0 := Tryz.isAgg0
  z0 := Tryz.sizeOf0
  v0 := Tryz.zeroValue0
  t2 := Tryz.underlying2
  a2 := Tryz.isAgg2
  z2 := Tryz.sizeOf2
  v2 := Tryz.zeroValue2
  t3 := Tryz.underlying3
  a3 := Tryz.isAgg3
  z3 := Tryz.sizeOf3
  v3 := Tryz.zeroValue3
  t4 := Tryz.underlying4
  a4 := Tryz.isAgg4
  z4 := Tryz.sizeOf4
  v4 := Tryz.zeroValue4
  t5 := Tryz.underlying5
  a5 := Tryz.isAgg5
  z5 := Tryz.sizeOf5
  v5 := Tryz.zeroValue5
  t9 := Tryz.underlying9
  a9 := Tryz.isAgg9
  z9 := Tryz.sizeOf9
  v9 := Tryz.zeroValue9
  t20 := Tryz.underlying20
  a20 := Tryz.isAgg20
  z20 := Tryz.sizeOf20
  v20 := Tryz.zeroValue20
  t21 := Tryz.underlying21
  a21 := Tryz.isAgg21
  z21 := Tryz.sizeOf21
  v21 := Tryz.zeroValue21
  t37 := Tryz.underlying27
  a37 := Tryz.isAgg27
  z37 := Tryz.sizeOf27
  v37 := Tryz.zeroValue27
  t46 := Tryz.underlying84
  a46 := Tryz.isAgg84
  z46 := Tryz.sizeOf84
  v46 := Tryz.zeroValue84
  t51 := Tryz.underlying101
  a51 := Tryz.isAgg101
  z51 := Tryz.sizeOf101
  v51 := Tryz.zeroValue101
  t53 := Tryz.underlying136
  a53 := Tryz.isAgg136
  z53 := Tryz.sizeOf136
  v53 := Tryz.zeroValue136
  t75 := Tryz.underlying165
  a75 := Tryz.isAgg165
  z75 := Tryz.sizeOf165
  v75 := Tryz.zeroValue165
  t76 := Tryz.underlying166
  a76 := Tryz.isAgg166
  z76 := Tryz.sizeOf166
  v76 := Tryz.zeroValue166
  t85 := Tryz.underlying187
  a85 := Tryz.isAgg187
  z85 := Tryz.sizeOf187
  v85 := Tryz.zeroValue187
  t127 := Tryz.underlying200
  a127 := Tryz.isAgg200
  z127 := Tryz.sizeOf200
  v127 := Tryz.zeroValue200
  t143 := Tryz.underlying201
  a143 := Tryz.isAgg201
  z143 := Tryz.sizeOf201
  v143 := Tryz.zeroValue201
  t145 := Tryz.underlying203
  a145 := Tryz.isAgg203
  z145 := Tryz.sizeOf203
  v145 := Tryz.zeroValue203
  t167 := Tryz.underlying186
  a167 := Tryz.isAgg186
  z167 := Tryz.sizeOf186
  v167 := Tryz.zeroValue186
  t168 := Tryz.underlying189
  a168 := Tryz.isAgg189
  z168 := Tryz.sizeOf189
  v168 := Tryz.zeroValue189
  t171 := Tryz.underlying205
  a171 := Tryz.isAgg205
  z171 := Tryz.sizeOf205
  v171 := Tryz.zeroValue205
  t173 := Tryz.underlying208
  a173 := Tryz.isAgg208
  z173 := Tryz.sizeOf208
  v173 := Tryz.zeroValue208
  t175 := Tryz.underlying193
  a175 := Tryz.isAgg193
  z175 := Tryz.sizeOf193
  v175 := Tryz.zeroValue193
  t210 := Tryz.underlying196
  a210 := Tryz.isAgg196
  z210 := Tryz.sizeOf196
  v210 := Tryz.zeroValue196
  t212 := Tryz.underlying211
  a212 := Tryz.isAgg211
  z212 := Tryz.sizeOf211
  v212 := Tryz.zeroValue211
  t213 := Tryz.underlying212
  a213 := Tryz.isAgg212
  z213 := Tryz.sizeOf212
  t232 := Tryz.underlying70
  a232 := Tryz.isAgg70
  z232 := Tryz.sizeOf70
  v232 := Tryz.zeroValue70
  t233 := Tryz.underlying112
  a233 := Tryz.isAgg112
  z233 := Tryz.sizeOf112
  v233 := Tryz.zeroValue112
  g15 := by kernel_rfl
  g16 := by kernel_rfl
  g17 := by kernel_rfl
  g18 := by kernel_rfl
  g19 := by kernel_rfl
  t80 := Tryz.underlying85
  a80 := Tryz.isAgg85
  z80 := Tryz.sizeOf85
  v80 := Tryz.zeroValue85
  i0 := by kernel_rfl
  i2 := by kernel_rfl
  i3 := by kernel_rfl
  i4 := by kernel_rfl
  i5 := by kernel_rfl
  i9 := by kernel_rfl
  i20 := by kernel_rfl
  i21 := by kernel_rfl
  i37 := by kernel_rfl
  i46 := by kernel_rfl
  i51 := by kernel_rfl
  i53 := by kernel_rfl
  i75 := by kernel_rfl
  i76 := by kernel_rfl
  i80 := by kernel_rfl
  i85 := by kernel_rfl
  i127 := by kernel_rfl
  i143 := by kernel_rfl
  i145 := by kernel_rfl
  i167 := by kernel_rfl
  i168 := by kernel_rfl
  i171 := by kernel_rfl
  i173 := by kernel_rfl
  i175 := by kernel_rfl
  i210 := by kernel_rfl
  i212 := by kernel_rfl
  i232 := by kernel_rfl
  i233 := by kernel_rfl
  m15 := by kernel_rfl
  m16 := by kernel_rfl
  m17 := by kernel_rfl
  m18 := by kernel_rfl
  m19 := by kernel_rfl
  c0 := by kernel_rfl
  c2 := by kernel_rfl
  c3 := by kernel_rfl
  c4 := by kernel_rfl
  c5 := by kernel_rfl
  c9 := by kernel_rfl
  c20 := by kernel_rfl
  c21 := by kernel_rfl
  c37 := by kernel_rfl
  c46 := by kernel_rfl
  c51 := by kernel_rfl
  c53 := by kernel_rfl
  c75 := by kernel_rfl
  c76 := by kernel_rfl
  c80 := by kernel_rfl
  c85 := by kernel_rfl
  c127 := by kernel_rfl
  c143 := by kernel_rfl
  c145 := by kernel_rfl
  c167 := by kernel_rfl
  c168 := by kernel_rfl
  c171 := by kernel_rfl
  c173 := by kernel_rfl
  c175 := by kernel_rfl
  c210 := by kernel_rfl
  c212 := by kernel_rfl
  c213 := by kernel_rfl
  c232 := by kernel_rfl
  c233 := by kernel_rfl }
def lays161_ren : Go.Shelf.Ren := ⟨fun | 161 => 123 | 231 => 144 | 227 => 145 | 233 => 146 | 235 => 147 | 228 => 158 | 197 => 115 | 151 => 159 | 260 => 133 | 152 => 171 | 137 => 93 | 119 => 177 | 224 => 113 | 225 => 112 | 217 => 111 | 266 => 131 | n => n, fun | 9 => 9 | 4 => 4 | 3 => 3 | 5 => 5 | 117 => 171 | 116 => 170 | 0 => 0 | 124 => 174 | 105 => 139 | 21 => 21 | 119 => 178 | 46 => 84 | 139 => 181 | 138 => 180 | n => n, fun | 3 => 2 | 4 => 3 | n => n⟩
set_option maxRecDepth 100000 in
theorem lays161 : Go.Proofs.Lays.n161 Tryz.prog lays161_ren := {
  mixed := by kernel_rfl
  f119 := Tryz.func177.trans (congrArg some (by kernel_rfl))
  f137 := Tryz.func93.trans (congrArg some (by kernel_rfl))
  f151 := Tryz.func159.trans (congrArg some (by kernel_rfl))
  f152 := Tryz.func171.trans (congrArg some (by kernel_rfl))
  f161 := Tryz.func123.trans (congrArg some (by kernel_rfl))
  f197 := Tryz.func115.trans (congrArg some (by kernel_rfl))
  f217 := Tryz.func111.trans (congrArg some (by kernel_rfl))
  f224 := Tryz.func113.trans (congrArg some (by kernel_rfl))
  f225 := Tryz.func112.trans (congrArg some (by kernel_rfl))
  f227 := Tryz.func145.trans (congrArg some (by kernel_rfl))
  f228 := Tryz.func158.trans (congrArg some (by kernel_rfl))
  f231 := Tryz.func144.trans (congrArg some (by kernel_rfl))
  f233 := Tryz.func146.trans (congrArg some (by kernel_rfl))
  f235 := Tryz.func147.trans (congrArg some (by kernel_rfl))
  f260 := Tryz.func133.trans (congrArg some (by kernel_rfl))
  f266 := Tryz.func131.trans (congrArg some (by kernel_rfl))
  t0 := Tryz.underlying0
  a0 := Tryz.isAgg0
  z0 := Tryz.sizeOf0
  v0 := Tryz.zeroValue0
  t3 := Tryz.underlying3
  a3 := Tryz.isAgg3
  z3 := Tryz.sizeOf3
  v3 := Tryz.zeroValue3
  t4 := Tryz.underlying4
  a4 := Tryz.isAgg4
  z4 := Tryz.sizeOf4
  v4 := Tryz.zeroValue4
  t5 := Tryz.underlying5
  a5 := Tryz.isAgg5
  z5 := Tryz.sizeOf5
  v5 := Tryz.zeroValue5
  t9 := Tryz.underlying9
  a9 := Tryz.isAgg9
  z9 := Tryz.sizeOf9
  v9 := Tryz.zeroValue9
  t21 := Tryz.underlying21
  a21 := Tryz.isAgg21
  z21 := Tryz.sizeOf21
  v21 := Tryz.zeroValue21
  t46 := Tryz.underlying84
  a46 := Tryz.isAgg84
  z46 := Tryz.sizeOf84
  v46 := Tryz.zeroValue84
  t105 := Tryz.underlying139
  a105 := Tryz.isAgg139
  z105 := Tryz.sizeOf139
  v105 := Tryz.zeroValue139
  t116 := Tryz.underlying170
  a116 := Tryz.isAgg170
  z116 := Tryz.sizeOf170
  t117 := Tryz.underlying171
  a117 := Tryz.isAgg171
  z117 := Tryz.sizeOf171
  v117 := Tryz.zeroValue171
  t119 := Tryz.underlying178
  a119 := Tryz.isAgg178
  z119 := Tryz.sizeOf178
  t124 := Tryz.underlying174
  a124 := Tryz.isAgg174
  z124 := Tryz.sizeOf174
  v124 := Tryz.zeroValue174
  t138 := Tryz.underlying180
  a138 := Tryz.isAgg180
  z138 := Tryz.sizeOf180
  v138 := Tryz.zeroValue180
  t139 := Tryz.underlying181
  a139 := Tryz.isAgg181
  z139 := Tryz.sizeOf181
  v139 := Tryz.zeroValue181
  g3 := by kernel_rfl
  g4 := by kernel_rfl }
def lays242_ren : Go.Shelf.Ren := ⟨fun | 242 => 136 | 278 => 152 | n => n, fun | 37 => 27 | 21 => 21 | 51 => 101 | 4 => 4 | 5 => 5 | 46 => 84 | n => n, fun | n => n⟩
set_option maxRecDepth 100000 in
theorem lays242 : Go.Proofs.Lays.n242 Tryz.prog lays242_ren := {
  mixed := by kernel_rfl
  f242 := Tryz.func136.trans (congrArg some (by kernel_rfl))
  f278 := Tryz.func152.trans (congrArg some (by kernel_rfl))
  t4 := Tryz.underlying4
  a4 := Tryz.isAgg4
  z4 := Tryz.sizeOf4
  v4 := Tryz.zeroValue4
  t5 := Tryz.underlying5
  a5 := Tryz.isAgg5
  z5 := Tryz.sizeOf5
  v5 := Tryz.zeroValue5
  t21 := Tryz.underlying21
  a21 := Tryz.isAgg21
  z21 := Tryz.sizeOf21
  v21 := Tryz.zeroValue21
  t37 := Tryz.underlying27
  a37 := Tryz.isAgg27
  z37 := Tryz.sizeOf27
  v37 := Tryz.zeroValue27
  t46 := Tryz.underlying84
  a46 := Tryz.isAgg84
  z46 := Tryz.sizeOf84
  v46 := Tryz.zeroValue84
  t51 := Tryz.underlying101
  a51 := Tryz.isAgg101
  z51 := Tryz.sizeOf101
  v51 := Tryz.zeroValue101 }
def lays197_ren : Go.Shelf.Ren := ⟨fun | 197 => 115 | 260 => 133 | n => n, fun | 9 => 9 | 21 => 21 | 3 => 3 | 4 => 4 | 5 => 5 | 105 => 139 | 119 => 178 | 0 => 0 | 46 => 84 | 139 => 181 | 138 => 180 | n => n, fun | 3 => 2 | 4 => 3 | n => n⟩
set_option maxRecDepth 100000 in
theorem lays197 : Go.Proofs.Lays.n197 Tryz.prog lays197_ren := {
  mixed := by kernel_rfl
  f197 := Tryz.func115.trans (congrArg some (by kernel_rfl))
  f260 := Tryz.func133.trans (congrArg some (by kernel_rfl))
  t0 := Tryz.underlying0
  a0 := Tryz.isAgg0
  z0 := Tryz.sizeOf0
  v0 := Tryz.zeroValue0
  t3 := Tryz.underlying3
  a3 := Tryz.isAgg3
  z3 := Tryz.sizeOf3
  v3 := Tryz.zeroValue3
  t4 := Tryz.underlying4
  a4 := Tryz.isAgg4
  z4 := Tryz.sizeOf4
  v4 := Tryz.zeroValue4
  t5 := Tryz.underlying5
  a5 := Tryz.isAgg5
  z5 := Tryz.sizeOf5
  v5 := Tryz.zeroValue5
  t9 := Tryz.underlying9
  a9 := Tryz.isAgg9
  z9 := Tryz.sizeOf9
  v9 := Tryz.zeroValue9
  t21 := Tryz.underlying21
  a21 := Tryz.isAgg21
  z21 := Tryz.sizeOf21
  v21 := Tryz.zeroValue21
  t46 := Tryz.underlying84
  a46 := Tryz.isAgg84
  z46 := Tryz.sizeOf84
  v46 := Tryz.zeroValue84
  t105 := Tryz.underlying139
  a105 := Tryz.isAgg139
  z105 := Tryz.sizeOf139
  v105 := Tryz.zeroValue139
  t119 := Tryz.underlying178
  a119 := Tryz.isAgg178
  z119 := Tryz.sizeOf178
  t138 := Tryz.underlying180
  a138 := Tryz.isAgg180
  z138 := Tryz.sizeOf180
  v138 := Tryz.zeroValue180
  t139 := Tryz.underlying181
  a139 := Tryz.isAgg181
  z139 := Tryz.sizeOf181
  v139 := Tryz.zeroValue181
  g3 := by kernel_rfl
  g4 := by kernel_rfl }
def lays109_ren : Go.Shelf.Ren := ⟨fun | 109 => 75 | n => n, fun | 31 => 23 | 9 => 9 | 3 => 3 | 0 => 0 | 4 => 4 | n => n, fun | n => n⟩
set_option maxRecDepth 100000 in
theorem lays109 : Go.Proofs.Lays.n109 Tryz.prog lays109_ren := {
  mixed := by kernel_rfl
  f109 := Tryz.func75.trans (congrArg some (by kernel_rfl))
  t0 := Tryz.underlying0
  a0 := Tryz.isAgg0
  z0 := Tryz.sizeOf0
  v0 := Tryz.zeroValue0
  t3 := Tryz.underlying3
  a3 := Tryz.isAgg3
  z3 := Tryz.sizeOf3
  v3 := Tryz.zeroValue3
  t4 := Tryz.underlying4
  a4 := Tryz.isAgg4
  z4 := Tryz.sizeOf4
  v4 := Tryz.zeroValue4
  t9 := Tryz.underlying9
  a9 := Tryz.isAgg9
  z9 := Tryz.sizeOf9
  v9 := Tryz.zeroValue9
  t31 := Tryz.underlying23
  a31 := Tryz.isAgg23
  z31 := Tryz.sizeOf23
  v31 := Tryz.zeroValue23 }
def lays110_ren : Go.Shelf.Ren := ⟨fun | 110 => 155 | 109 => 75 | n => n, fun | 31 => 23 | 9 => 9 | 4 => 4 | 3 => 3 | 0 => 0 | n => n, fun | n => n⟩
set_option maxRecDepth 100000 in
theorem lays110 : Go.Proofs.Lays.n110 Tryz.prog lays110_ren := {
  mixed := by kernel_rfl
  f109 := Tryz.func75.trans (congrArg some (by kernel_rfl))
  f110 := Tryz.func155.trans (congrArg some (by kernel_rfl))
  t0 := Tryz.underlying0
  a0 := Tryz.isAgg0
  z0 := Tryz.sizeOf0
  v0 := Tryz.zeroValue0
  t3 := Tryz.underlying3
  a3 := Tryz.isAgg3
  z3 := Tryz.sizeOf3
  v3 := Tryz.zeroValue3
  t4 := Tryz.underlying4
  a4 := Tryz.isAgg4
  z4 := Tryz.sizeOf4
  v4 := Tryz.zeroValue4
  t9 := Tryz.underlying9
  a9 := Tryz.isAgg9
  z9 := Tryz.sizeOf9
  v9 := Tryz.zeroValue9
  t31 := Tryz.underlying23
  a31 := Tryz.isAgg23
  z31 := Tryz.sizeOf23
  v31 := Tryz.zeroValue23 }
def lays193_ren : Go.Shelf.Ren := ⟨fun | 193 => 77 | n => n, fun | 31 => 23 | 9 => 9 | 4 => 4 | 3 => 3 | 0 => 0 | n => n, fun | n => n⟩
set_option maxRecDepth 100000 in
theorem lays193 : Go.Proofs.Lays.n193 Tryz.prog lays193_ren := {
  mixed := by kernel_rfl
  f193 := Tryz.func77.trans (congrArg some (by kernel_rfl))
  t0 := Tryz.underlying0
  a0 := Tryz.isAgg0
  z0 := Tryz.sizeOf0
  v0 := Tryz.zeroValue0
  t3 := Tryz.underlying3
  a3 := Tryz.isAgg3
  z3 := Tryz.sizeOf3
  v3 := Tryz.zeroValue3
  t4 := Tryz.underlying4
  a4 := Tryz.isAgg4
  z4 := Tryz.sizeOf4
  v4 := Tryz.zeroValue4
  t9 := Tryz.underlying9
  a9 := Tryz.isAgg9
  z9 := Tryz.sizeOf9
  v9 := Tryz.zeroValue9
  t31 := Tryz.underlying23
  a31 := Tryz.isAgg23
  z31 := Tryz.sizeOf23
  v31 := Tryz.zeroValue23 }
end Go.Proofs.YthklgpflaghojaaGreatDoor

/-
  A reader in memory; what a step of the reader may change; what the library's variables hold; how a step ends.
-/
namespace Go.Proofs.YthklgpflaghojaaGreatDoor
open Go.RowKit

/-- What is read of the library's variables. -/
def Held (w : World) : Prop :=
  Lib.TabIs Tryz.prog w "internal/strconv.uint64pow10" .u64 Lib.pow10Tab ∧ (∃ tp p, w.var? Tryz.prog "strconv.ErrSyntax" = some #[.iface tp p]) ∧ (∃ tp p, w.var? Tryz.prog "strconv.ErrRange" = some #[.iface tp p]) ∧ Lib.Utf8Tabs 2 3 w
theorem var_below {n : String} {g : Nat} {cs : Array Value} {w w' : World} (hg : Tryz.prog.globalNamed n = some g) (h : w.var? Tryz.prog n = some cs) (hb : Below w.heap.size w w') : w'.var? Tryz.prog n = some cs := by
  unfold World.var? at h ⊢
  rw [hg] at h ⊢
  simp only [Option.bind_some] at h ⊢
  have hlt : g < w.heap.size := by
    rcases Nat.lt_or_ge g w.heap.size with h' | h'
    · exact h'
    · rw [Array.getElem?_eq_none h'] at h; cases h
  rw [hb.block g hlt]
  exact h
set_option maxRecDepth 100000 in
theorem Held.below {w w' : World} (h : Held w) (hb : Below w.heap.size w w') : Held w' := by
  obtain ⟨h1, ⟨a, b, h2⟩, ⟨c, d, h3⟩, h4⟩ := h
  exact ⟨var_below (g := 6) (by kernel_rfl) h1 hb, ⟨a, b, var_below (g := 4) (by kernel_rfl) h2 hb⟩, ⟨c, d, var_below (g := 5) (by kernel_rfl) h3 hb⟩, Utf8Tabs_below h4 hb⟩

theorem gb_trans {w w1 w2 : World} {r : Option Nat} (h1 : w.grownBy w1 r) (h2 : w1.grownBy w2 r) : w.grownBy w2 r :=
  ⟨h2.os.trans h1.os, h2.tape.trans h1.tape, h2.output.trans h1.output, Nat.le_trans h1.size h2.size, fun k hk hr => (h2.block k (Nat.lt_of_lt_of_le hk h1.size) hr).trans (h1.block k hk hr)⟩
theorem gb_below {w w' : World} {r : Option Nat} (h : Below w.heap.size w w') : w.grownBy w' r := ⟨h.os, h.tape, h.output, h.size, fun k hk _ => h.block k hk⟩
theorem gb_set (w : World) (R i : Nat) (v : Value) : w.grownBy (w.setCell ⟨R, i, none⟩ v) (some R) :=
  ⟨rfl, rfl, rfl, by simp [World.setCell], fun k _ hne => Below.heap_setCell w _ v k (fun e => hne (by rw [e]))⟩
theorem gb_down {w w' : World} {R B : Nat} (h : w.grownBy w' (some R)) (hB : B ≤ w.heap.size) (hR : B ≤ R) : Below B w w' :=
  ⟨h.os, h.tape, h.output, h.size, fun k hk => h.block k (Nat.lt_of_lt_of_le hk hB) (fun e => by injection e with e; omega)⟩

/-- A reader in memory: what is still to be read, how many lists are open. W: the world in which the reading began. -/
structure Rd (W : World) (R : Nat) (s : ByteArray) (d : Nat) (w : World) : Prop where
  held : Held W
  below : Below W.heap.size W w
  le : W.heap.size ≤ R
  lies : Lies w R 106 [.string s, .int .i64 (d : Int)]
  small : s.size ≤ 4096
  deep : d ≤ 16
section
variable {W w w' : World} {R d : Nat} {s s' : ByteArray}
theorem Rd.cells (h : Rd W R s d w) : w.cell? ⟨R, 0, none⟩ = some (.string s) ∧ w.cell? ⟨R, 1, none⟩ = some (.int .i64 (d : Int)) ∧ w.frozen? ⟨R, 0, none⟩ = false ∧ w.frozen? ⟨R, 1, none⟩ = false :=
  ⟨h.lies.cell 0, h.lies.cell 1, h.lies.free 0, h.lies.free 1⟩
theorem Rd.heldW (h : Rd W R s d w) : Held w := h.held.below h.below
theorem Rd.set0 (h : Rd W R s d w) (hs : s'.size ≤ 4096) : Rd W R s' d (w.setCell ⟨R, 0, none⟩ (.string s')) :=
  ⟨h.held, h.below.setCell h.le _, h.le, by have := h.lies.put 0 (.string s'); simpa using this, hs, h.deep⟩
theorem Rd.set1 (h : Rd W R s d w) {d' : Nat} (hd : d' ≤ 16) : Rd W R s d' (w.setCell ⟨R, 1, none⟩ (.int .i64 (d' : Int))) :=
  ⟨h.held, h.below.setCell h.le _, h.le, by have := h.lies.put 1 (.int .i64 (d' : Int)); simpa using this, h.small, hd⟩
theorem Rd.lt (h : Rd W R s d w) : R < w.heap.size := h.lies.lt
theorem Rd.more (h : Rd W R s d w) (hb : Below w.heap.size w w') : Rd W R s d w' :=
  ⟨h.held, h.below.trans (hb.mono h.below.size), h.le, h.lies.below hb h.lt, h.small, h.deep⟩
end

/-- The panic with an error's number. -/
abbrev errEnd (n : Nat) : Ending := .panicked [{ v := .iface 30 (.int .i64 (n : Int)), recovered := false }]
/-- How a step of the reader ends: with a value and what is left to read, or with an error. -/
def Ends {α : Type} (W : World) (R d : Nat) (w : World) (val : α → Value → World → Prop) (res : Jq.R α) (e : Ending) (w' : World) : Prop :=
  match res with
  | .ok (x, r) => ∃ v s', e = .returned v ∧ val x v w' ∧ numsOf s' = r ∧ Rd W R s' d w' ∧ w.grownBy w' (some R)
  | .error n => e = errEnd n ∧ w.grownBy w' (some R)
theorem Ends.ok {α : Type} {W : World} {R d : Nat} {w : World} {val : α → Value → World → Prop} {res : Jq.R α} {x : α} {r : List Nat} {v : Value} {s' : ByteArray} {w' : World}
    (h : res = .ok (x, r)) (hv : val x v w') (hr : numsOf s' = r) (hR : Rd W R s' d w') (hg : w.grownBy w' (some R)) : Ends W R d w val res (.returned v) w' := by
  rw [h]; exact ⟨v, s', rfl, hv, hr, hR, hg⟩
theorem Ends.err {α : Type} {W : World} {R d : Nat} {w : World} {val : α → Value → World → Prop} {res : Jq.R α} {n : Nat} {w' : World}
    (h : res = .error n) (hg : w.grownBy w' (some R)) : Ends W R d w val res (errEnd n) w' := by
  rw [h]; exact ⟨rfl, hg⟩
end Go.Proofs.YthklgpflaghojaaGreatDoor

/-
  The library's functions at readers: TrimLeft, CutPrefix, Atoi on digits, DecodeRuneInString, AppendRune.
-/
namespace Go.Proofs.YthklgpflaghojaaGreatDoor
open Go.RowKit

theorem nums_mk (l : List UInt8) : numsOf ⟨l.toArray⟩ = l.map fun u : UInt8 => u.toNat := rfl
theorem nums_data (s : ByteArray) : numsOf s = Uq.nums s.data.toList := rfl
theorem drop_nums (p : UInt8 → Bool) (q : Nat → Bool) (h : ∀ u : UInt8, q u.toNat = p u) (l : List UInt8) : (l.dropWhile p).map (fun u : UInt8 => u.toNat) = (l.map fun u : UInt8 => u.toNat).dropWhile q := by
  rw [List.dropWhile_map]
  congr 2
  funext u
  exact (h u).symm

abbrev blankB : ByteArray := { data := #[32, 9, 10, 13] }
abbrev digitB : ByteArray := { data := #[48, 49, 50, 51, 52, 53, 54, 55, 56, 57] }
theorem byte_all {p q : UInt8 → Bool} (h : ∀ n : Fin 256, p (UInt8.ofNat n.val) = q (UInt8.ofNat n.val)) (u : UInt8) : p u = q u := by
  have := h ⟨u.toNat, u.toNat_lt⟩
  simpa using this
set_option maxRecDepth 100000 in
theorem blank_byte (u : UInt8) : Jq.blank u.toNat = ([32, 9, 10, 13] : List UInt8).contains u :=
  byte_all (p := fun u => Jq.blank u.toNat) (q := fun u => ([32, 9, 10, 13] : List UInt8).contains u) (by decide) u
set_option maxRecDepth 100000 in
theorem digit_byte (u : UInt8) : Jq.dig u.toNat = ([48, 49, 50, 51, 52, 53, 54, 55, 56, 57] : List UInt8).contains u :=
  byte_all (p := fun u => Jq.dig u.toNat) (q := fun u => ([48, 49, 50, 51, 52, 53, 54, 55, 56, 57] : List UInt8).contains u) (by decide) u
set_option maxRecDepth 100000 in
theorem trimBlank_any (s : ByteArray) (w : World) :
    Calls Tryz.prog 123 #[.string s, .string blankB] w fun e w' => ∃ s', e = .returned (.string s') ∧ numsOf s' = Jq.skip (numsOf s) ∧ Below w.heap.size w w' := by
  refine (Any.strings_TrimLeft_laid (P := Tryz.prog) (ρ := lays161_ren) lays161 (by kernel_rfl) s blankB w (by decide) (ascii_of_all (by decide))).mono fun e w' ⟨he, hb⟩ => ⟨_, he, ?_, hb⟩
  rw [nums_mk]
  exact drop_nums _ _ (fun u => blank_byte u) _
set_option maxRecDepth 100000 in
theorem trimDigits_any (s : ByteArray) (w : World) :
    Calls Tryz.prog 123 #[.string s, .string digitB] w fun e w' => ∃ s', e = .returned (.string s') ∧ numsOf s' = (numsOf s).dropWhile Jq.dig ∧ Below w.heap.size w w' := by
  refine (Any.strings_TrimLeft_laid (P := Tryz.prog) (ρ := lays161_ren) lays161 (by kernel_rfl) s digitB w (by decide) (ascii_of_all (by decide))).mono fun e w' ⟨he, hb⟩ => ⟨_, he, ?_, hb⟩
  rw [nums_mk]
  exact drop_nums _ _ (fun u => digit_byte u) _

theorem cutPrefix_any (s p : ByteArray) (w : World) :
    Calls Tryz.prog 134 #[.string s, .string p] w fun e w' => w = w' ∧ ((∃ x, e = .returned (.tuple #[.string x, .bool true]) ∧ (numsOf s).take p.size = numsOf p ∧ x = s.extract p.size s.size) ∨ (e = .returned (.tuple #[.string s, .bool false]) ∧ (numsOf s).take p.size ≠ numsOf p)) := by
  refine (Any.strings_CutPrefix (P := Tryz.prog) (ρ := lays103_ren) lays103 s p w).mono fun e w' ⟨he, hw⟩ => ⟨hw.symm, ?_⟩
  have hp := prefix_beq s (numsOf p) (numsOf_lt p)
  rw [strOf_numsOf, numsOf_length] at hp
  rw [← Lib.hasPrefix_raw] at he
  by_cases h : (numsOf s).take p.size = numsOf p
  · left
    rw [decide_eq_true h] at hp
    obtain ⟨h1, h2⟩ := (Bool.and_eq_true _ _).mp hp
    rw [hp, Lib.trimPrefix_hit s p (of_decide_eq_true h1) h2] at he
    exact ⟨_, he, h, rfl⟩
  · right
    rw [decide_eq_false h] at hp
    rw [hp, Lib.trimPrefix_miss s p hp] at he
    exact ⟨he, h⟩

/-- How Atoi ends on digits alone. -/
def AtoiEnd (d : List Nat) (w : World) (e : Ending) (w' : World) : Prop :=
  Below w.heap.size w w' ∧ ((d ≠ [] ∧ Uq.val d < 9223372036854775808 ∧ e = .returned (.tuple #[.int .i64 (Uq.val d : Nat), .nilIface])) ∨ ((d = [] ∨ 9223372036854775808 ≤ Uq.val d) ∧ ∃ (v : Int) (t : TypeId) (p : Value), e = .returned (.tuple #[.int .i64 v, .iface t p])))
theorem atoi_any (s : ByteArray) (w : World) (hs : s.size ≤ 4096) (hd : ∀ c ∈ numsOf s, Jq.dig c = true) (hH : Held w) :
    Calls Tryz.prog 143 #[.string s] w fun e w' => AtoiEnd (numsOf s) w e w' := by
  obtain ⟨_, ⟨t1, p1, v1⟩, ⟨t2, p2, v2⟩, _⟩ := hH
  have bad : ∀ {x : Lib.NumEnd Int}, Lib.atoiAll s.data.toList = x → (∀ v, x ≠ .ok v) → numsOf s = [] ∨ 9223372036854775808 ≤ Uq.val (numsOf s) := fun {x} hx hn => by
    by_cases h0 : s.data.toList = []
    · exact .inl (by rw [nums_data, h0]; rfl)
    · rcases Jq.atoi_digits h0 hd with ⟨_, h2⟩ | ⟨h1, _⟩
      · exact absurd (hx.symm.trans h2) (hn _)
      · exact .inr h1
  cases h : Lib.atoiAll s.data.toList
  · rename_i v
    refine (Any.strconv_Atoi_ok (P := Tryz.prog) (ρ := laysC172_ren) laysC172 s (by omega) v h w).mono fun e w' ⟨he, hw⟩ => ⟨?_, .inl ?_⟩
    · rcases hw with rfl | ⟨t, rfl⟩
      · exact Below.refl _ _
      · exact Lib.bytesWorld_below _ _ _
    · by_cases h0 : s.data.toList = []
      · rw [h0] at h; cases h
      · refine ⟨fun e => h0 (by rw [nums_data] at e; simpa [Uq.nums] using e), ?_⟩
        rcases Jq.atoi_digits h0 hd with ⟨h1, h2⟩ | ⟨_, h2⟩
        · rw [h] at h2
          injection h2 with h2
          subst h2
          exact ⟨h1, he⟩
        · exact absurd h (h2 v)
  · exact (Any.strconv_Atoi_syntax_var (P := Tryz.prog) (ρ := laysC172_ren) laysC172 s (by omega) h t1 p1 w v1).mono fun e w' ⟨N, he, _, _, hb⟩ => ⟨hb, .inr ⟨bad h (fun v e => by cases e), _, _, _, he⟩⟩
  · exact (Any.strconv_Atoi_range_var (P := Tryz.prog) (ρ := laysC172_ren) laysC172 s (by omega) h t2 p2 w v2).mono fun e w' ⟨N, he, _, _, hb⟩ => ⟨hb, .inr ⟨bad h (fun v e => by cases e), _, _, _, he⟩⟩

theorem decodeRune_any (s : ByteArray) (w : World) (hH : Held w) :
    Calls Tryz.prog 115 #[.string s] w fun e w' => ∃ c k : Nat, e = .returned (.tuple #[.int .i32 (c : Int), .int .i64 (k : Int)]) ∧ ((s.size = 0 ∧ c = 65533 ∧ k = 0) ∨ (s.size ≠ 0 ∧ Jq.DecAs (numsOf s) (c, k))) ∧ Below w.heap.size w w' := by
  refine (Any.utf8_DecodeRuneInString (P := Tryz.prog) (ρ := lays197_ren) lays197 s w hH.2.2.2).mono fun e w' ⟨he, hb⟩ => ⟨_, _, he, ?_, hb⟩
  by_cases h0 : s.size = 0
  · left
    unfold Lib.decodeGo
    rw [if_pos h0]
    exact ⟨h0, rfl, rfl⟩
  · right
    refine ⟨h0, ?_⟩
    have hne : s.data.toList ≠ [] := fun h => h0 (by rw [Lib.size_eq, h]; rfl)
    have h := Jq.decodeL_as s.data.toList hne
    unfold Lib.decodeGo
    rw [if_neg h0]
    exact h

theorem rune_cells {r : Nat} (h : Jq.okRune r = true) : Lib.runeCells (r : Int) = u8s (Jq.runeBytes r) := by
  unfold Jq.okRune at h
  simp only [Bool.and_eq_true, Bool.or_eq_true, decide_eq_true_eq] at h
  unfold Lib.runeCells Jq.runeBytes u8s
  by_cases h1 : r < 128
  · rw [if_pos h1, Lib.encodeRuneZ_one (by omega) (by omega)]; rfl
  rw [if_neg h1]
  by_cases h2 : r < 2048
  · rw [if_pos h2, Lib.encodeRuneZ_two (by omega) (by omega)]; simp
  rw [if_neg h2]
  by_cases h3 : r < 65536
  · rw [if_pos h3, Lib.encodeRuneZ_three (by omega)]; simp
  rw [if_neg h3, Lib.encodeRuneZ_four (by omega) (by omega)]; simp
theorem appendRune_any (B : Nat) (v : Value) (q : List Nat) (r : Nat) (hr : Jq.okRune r = true) (w : World) (hown : w.ownsRow B 5 1 v q.length (u8s q)) (hq : q.length ≤ 1048576) (hB : B ≤ w.heap.size) :
    Calls Tryz.prog 136 #[v, .int .i32 (r : Int)] w fun e w' => ∃ v', e = .returned v' ∧ w'.ownsRow B 5 1 v' (q ++ Jq.runeBytes r).length (u8s (q ++ Jq.runeBytes r)) ∧ w.grownBy w' v.ownBlock := by
  have hle : r ≤ 1114111 := by
    unfold Jq.okRune at hr
    simp only [Bool.and_eq_true, decide_eq_true_eq] at hr
    exact hr.1
  refine (Any.utf8_AppendRune_plain (P := Tryz.prog) (ρ := lays242_ren) lays242 infoByte B v q.length (u8s q) r (by omega) (by omega) w hown (by omega) hB).mono fun e w' ⟨v', he, ho, o, hg⟩ => ⟨v', he, ?_, ?_⟩
  · rw [rune_cells hr] at ho
    rw [List.length_append, u8s_append, ← u8s_length (Jq.runeBytes r)]
    exact ho
  · exact gb_trans (World.grownBy_alloc w o _) hg
end Go.Proofs.YthklgpflaghojaaGreatDoor

/-
  The reader's small steps: space, next, pass, takes, must.
-/
namespace Go.Proofs.YthklgpflaghojaaGreatDoor
open Go.RowKit
set_option maxRecDepth 100000 in
set_option maxHeartbeats 1000000 in
theorem space_any (W : World) (R d : Nat) (s : ByteArray) (w : World) (h : Rd W R s d w) :
    Calls Tryz.prog 96 #[.pointer (some ⟨R, 0, none⟩)] w fun e w' => e = .returned (.tuple #[]) ∧ ∃ s', numsOf s' = Jq.skip (numsOf s) ∧ Rd W R s' d w' ∧ w.grownBy w' (some R) := by
  obtain ⟨c0, _, f0, _⟩ := h.cells
  have hT := trimBlank_any s
  go_enter Tryz.func96, Tryz.ntmps96
  go_wp2_with fail
  refine (hT _).mono ?_
  rintro e w1 ⟨s1, rfl, hs1, hb⟩
  have h1 := h.more hb
  obtain ⟨d0, _, e0, _⟩ := h1.cells
  have HS := Lib.hid hs1
  clear hs1 hT c0 f0
  go_wp2
  go_end0
  have hsz : s1.size ≤ 4096 := by
    have := Jq.skip_len (numsOf s)
    rw [← HS.out, numsOf_length, numsOf_length] at this
    have := h.small
    omega
  exact ⟨rfl, s1, HS.out, h1.set0 hsz, gb_trans (gb_below hb) (gb_set _ _ _ _)⟩

set_option maxRecDepth 100000 in
set_option maxHeartbeats 1000000 in
theorem next_any (W : World) (R d : Nat) (s : ByteArray) (w : World) (h : Rd W R s d w) :
    Calls Tryz.prog 116 #[.pointer (some ⟨R, 0, none⟩)] w fun e w' => e = .returned (.int .u8 ((numsOf s).getD 0 0 : Nat)) ∧ w = w' := by
  obtain ⟨c0, _, f0, _⟩ := h.cells
  by_cases h0 : s.size = 0
  · have HX := Lib.hid (nums_end s 0 (by omega))
    have he : s.toList.isEmpty = true := by
      rw [ByteArray.toList_eq, List.isEmpty_iff]
      exact List.eq_nil_of_length_eq_zero (by rw [Array.length_toList]; exact h0)
    have he2 : s.toList = [] := List.isEmpty_iff.1 he
    go_enter Tryz.func116, Tryz.ntmps116
    go_wp2
    go_ret
    exact ⟨ret_int (by rw [HX.out]; rfl), rfl⟩
  · have hlt : 0 < s.size := by omega
    have HX := Lib.hid (nums_at s 0 hlt)
    have he : s.toList.isEmpty = false := by
      rw [ByteArray.toList_eq]
      cases hh : s.data.toList with
      | nil => exact absurd (by have := congrArg List.length hh; rw [Array.length_toList] at this; exact this) h0
      | cons a r => rfl
    have he2 : ¬ (s.toList = []) := fun e => by rw [e] at he; cases he
    go_enter Tryz.func116, Tryz.ntmps116
    go_wp2
    go_ret
    exact ⟨ret_int (by rw [HX.out]), rfl⟩

set_option maxRecDepth 100000 in
set_option maxHeartbeats 1000000 in
theorem pass_any (W : World) (R d : Nat) (s : ByteArray) (w : World) (h : Rd W R s d w) (h0 : 0 < s.size) :
    Calls Tryz.prog 135 #[.pointer (some ⟨R, 0, none⟩)] w fun e w' => e = .returned (.tuple #[]) ∧ ∃ s', numsOf s' = (numsOf s).drop 1 ∧ Rd W R s' d w' ∧ w.grownBy w' (some R) := by
  obtain ⟨c0, _, f0, _⟩ := h.cells
  have hsm := h.small
  go_enter Tryz.func135, Tryz.ntmps135
  go_wp2
  go_end0
  exact ⟨rfl, _, nums_from s 1, h.set0 (by rw [← numsOf_length, nums_from, List.length_drop, numsOf_length]; omega), gb_set _ _ _ _⟩
end Go.Proofs.YthklgpflaghojaaGreatDoor

/-
  The reader's takes, must and word.
-/
namespace Go.Proofs.YthklgpflaghojaaGreatDoor
open Go.RowKit

theorem byte_ne {a b : Nat} (h : a ≠ b) : ((a : Int) != (b : Int)) = true := by
  rw [bne_iff_ne]; omega
theorem byte_eq {a b : Nat} (h : a = b) : ((a : Int) != (b : Int)) = false := by
  subst h; simp
theorem head_pos {s : ByteArray} {c : Nat} (h : (numsOf s).head? = some c) : 0 < s.size := by
  rw [← numsOf_length]
  cases hh : numsOf s with
  | nil => rw [hh] at h; cases h
  | cons a r => simp

set_option maxRecDepth 100000 in
set_option maxHeartbeats 2000000 in
theorem takes_any (W : World) (R d : Nat) (s : ByteArray) (w : World) (c : Nat) (hc : c ≠ 0) (h : Rd W R s d w) :
    Calls Tryz.prog 154 #[.pointer (some ⟨R, 0, none⟩), .int .u8 (c : Int)] w fun e w' =>
      ∃ s', Rd W R s' d w' ∧ w.grownBy w' (some R) ∧ (((Jq.skip (numsOf s)).head? = some c ∧ e = .returned (.bool true) ∧ numsOf s' = (Jq.skip (numsOf s)).drop 1) ∨ ((Jq.skip (numsOf s)).head? ≠ some c ∧ e = .returned (.bool false) ∧ numsOf s' = Jq.skip (numsOf s))) := by
  have hS := space_any W R d s w h
  have hN := fun s' w' (h' : Rd W R s' d w') => next_any W R d s' w' h'
  have hP := fun s' w' (h' : Rd W R s' d w') => pass_any W R d s' w' h'
  go_enter Tryz.func154, Tryz.ntmps154
  go_wp2_with fail
  refine hS.mono ?_
  rintro e w1 ⟨rfl, s1, hs1, h1, hg1⟩
  clear hS
  have HS := Lib.hid hs1
  have hh := nums_head s1 c hc
  rw [hs1] at hh
  have hN1 := hN s1 w1 h1
  obtain ⟨x, ex⟩ : ∃ x, (numsOf s1).getD 0 0 = x := ⟨_, rfl⟩
  rw [ex] at hN1
  rw [← hs1, ex] at hh
  clear hs1 ex hN
  by_cases hx : x = c
  · have hhd : (numsOf s1).head? = some c := hh.2 hx
    have hpos := head_pos hhd
    have hP1 := hP s1 w1 h1 hpos
    have hd := byte_eq hx
    have HH := Lib.hid hhd
    clear hh hP hhd hx
    go_wp2_with fail
    refine hN1.mono ?_
    rintro e w2 ⟨rfl, rfl⟩
    clear hN1
    go_wp2_with fail
    refine hP1.mono ?_
    rintro e w2 ⟨rfl, s2, hs2, h2, hg2⟩
    clear hP1
    have HS2 := Lib.hid hs2
    clear hs2
    go_wp2
    go_ret
    exact ⟨s2, h2, gb_trans hg1 hg2, .inl ⟨by rw [← HS.out]; exact HH.out, rfl, by rw [HS2.out, HS.out]⟩⟩
  · have hd := byte_ne hx
    have HH : Hid ((numsOf s1).head? ≠ some c) := fun e => hx (hh.1 e)
    clear hh hP hx
    go_wp2_with fail
    refine hN1.mono ?_
    rintro e w2 ⟨rfl, rfl⟩
    clear hN1
    go_wp2
    go_ret
    exact ⟨s1, h1, hg1, .inr ⟨by rw [← HS.out]; exact HH.out, rfl, HS.out⟩⟩

/-- Past a sign that has to be there. -/
def mustP (c : Nat) (l : List Nat) : Jq.R Unit := if (Jq.skip l).head? = some c then .ok ((), (Jq.skip l).drop 1) else .error 51

set_option maxRecDepth 100000 in
set_option maxHeartbeats 2000000 in
theorem must_any (W : World) (R d : Nat) (s : ByteArray) (w : World) (c : Nat) (hc : c ≠ 0) (h : Rd W R s d w) :
    Calls Tryz.prog 142 #[.pointer (some ⟨R, 0, none⟩), .int .u8 (c : Int)] w fun e w' => Ends W R d w (fun _ v _ => v = .tuple #[]) (mustP c (numsOf s)) e w' := by
  have hT := takes_any W R d s w c hc h
  go_enter Tryz.func142, Tryz.ntmps142
  go_wp2_with fail
  refine hT.mono ?_
  rintro e w1 ⟨s1, h1, hg1, ⟨hh, rfl, hs1⟩ | ⟨hh, rfl, hs1⟩⟩
  · have HH : Hid (mustP c (numsOf s) = .ok ((), (Jq.skip (numsOf s)).drop 1)) := if_pos hh
    have HS := Lib.hid hs1
    clear hT hh hs1
    go_wp2
    go_end0
    exact Ends.ok HH.out rfl HS.out h1 hg1
  · have HH : Hid (mustP c (numsOf s) = .error 51) := if_neg hh
    clear hT hh hs1
    go_wp2
    exact ⟨rfl, Ends.err HH.out hg1⟩
end Go.Proofs.YthklgpflaghojaaGreatDoor

/-
  Values in memory: what a value reads as; a struct of six cells.
-/
namespace Go.Proofs.YthklgpflaghojaaGreatDoor
open Go.RowKit

/-- A value's six cells. -/
abbrev jv (k : Int) (b : Bool) (n : Int) (t : ByteArray) (names list : Value) : Value := .agg #[.int .i64 k, .bool b, .int .i64 n, .string t, names, list]
def jcells : Value → List Value
  | .agg cs => cs.toList
  | v => [v]
/-- A slice of n elements whose cells are these, in blocks of which ok speaks. -/
def SlIs (w : World) (ok : Nat → Prop) (v : Value) (n : Nat) (cs : List Value) : Prop :=
  ∃ A c, v = .slice A n c ∧ n ≤ c ∧ c ≤ 9223372036854775807 ∧ (0 < n → ∃ b off, A = some ⟨b, off, none⟩ ∧ ok b ∧ b < w.heap.size ∧ ∀ j x, cs[j]? = some x → w.cell? ⟨b, off + j, none⟩ = some x)
def tcells (l : List (List Nat)) : List Value := l.map fun p => .string (strOf p)
/-- What a value reads as, all its blocks such of which ok speaks. -/
inductive IsJ (w : World) (ok : Nat → Prop) : Value → Jq.J → Prop where
  | mk {k : Int} {b : Bool} {n : Int} {t : List Nat} {ns : List (List Nat)} {l : List Jq.J} {names list : Value} {vs : List Value}
      (hk : -9223372036854775808 ≤ k ∧ k ≤ 9223372036854775807) (hn : -9223372036854775808 ≤ n ∧ n ≤ 9223372036854775807)
      (ht : t.length ≤ 140737488355328 ∧ ∀ x ∈ t, x < 256)
      (hns : SlIs w ok names ns.length (tcells ns)) (hnt : ∀ p ∈ ns, p.length ≤ 140737488355328 ∧ ∀ x ∈ p, x < 256) (hnl : ns.length * 16 ≤ 140737488355328)
      (hl : SlIs w ok list l.length (vs.flatMap jcells)) (hvl : vs.length = l.length) (hll : l.length * 88 ≤ 140737488355328)
      (he : ∀ (i : Nat) v x, vs[i]? = some v → l[i]? = some x → IsJ w ok v x) : IsJ w ok (jv k b n (strOf t) names list) (.mk k b n t ns l)

theorem SlIs.nil (w : World) (ok : Nat → Prop) : SlIs w ok (.slice none 0 0) 0 [] := ⟨none, 0, rfl, Nat.le_refl _, by omega, fun h => absurd h (Nat.lt_irrefl _)⟩
theorem SlIs.keep {w w' : World} {ok ok' : Nat → Prop} {v : Value} {n : Nat} {cs : List Value} (h : SlIs w ok v n cs) (hk : ∀ b, ok b → b < w.heap.size → ok' b ∧ w'.heap[b]? = w.heap[b]?) (hs : w.heap.size ≤ w'.heap.size) : SlIs w' ok' v n cs := by
  obtain ⟨A, c, rfl, h1, h2, h3⟩ := h
  refine ⟨A, c, rfl, h1, h2, fun hn => ?_⟩
  obtain ⟨b, off, rfl, h4, h5, h6⟩ := h3 hn
  obtain ⟨k1, k2⟩ := hk b h4 h5
  exact ⟨b, off, rfl, k1, Nat.lt_of_lt_of_le h5 hs, fun j x hj => (World.cell?_of_block (a := ⟨b, off + j, none⟩) k2).trans (h6 j x hj)⟩
theorem IsJ.keep {w w' : World} {ok ok' : Nat → Prop} (hk : ∀ b, ok b → b < w.heap.size → ok' b ∧ w'.heap[b]? = w.heap[b]?) (hs : w.heap.size ≤ w'.heap.size) {v : Value} {x : Jq.J} (h : IsJ w ok v x) : IsJ w' ok' v x := by
  induction h with
  | mk h1 h2 h3 h4 h5 h6 h7 h8 h9 _ ih => exact .mk h1 h2 h3 (h4.keep hk hs) h5 h6 (h7.keep hk hs) h8 h9 ih
theorem IsJ.form {w : World} {ok : Nat → Prop} {v : Value} {x : Jq.J} (h : IsJ w ok v x) : ∃ A1 c1 A2 c2, v = jv x.kind x.bool x.int (strOf x.text) (.slice A1 x.names.length c1) (.slice A2 x.list.length c2) := by
  cases h with
  | mk h1 h2 h3 h4 h5 h6 h7 h8 h9 h10 =>
    obtain ⟨A1, c1, rfl, _⟩ := h4
    obtain ⟨A2, c2, rfl, _⟩ := h7
    exact ⟨A1, c1, A2, c2, rfl⟩
/-- What holds of blocks from B on holds of blocks from any lower one on. -/
theorem IsJ.from {w : World} {B C : Nat} {v : Value} {x : Jq.J} (h : IsJ w (B ≤ ·) v x) (hB : C ≤ B) : IsJ w (C ≤ ·) v x :=
  h.keep (fun _ hb _ => ⟨Nat.le_trans hB hb, rfl⟩) (Nat.le_refl _)
theorem isJ_plain (w : World) (ok : Nat → Prop) {k n : Int} {b : Bool} {t : List Nat} (hk : -9223372036854775808 ≤ k ∧ k ≤ 9223372036854775807) (hn : -9223372036854775808 ≤ n ∧ n ≤ 9223372036854775807)
    (ht : t.length ≤ 140737488355328 ∧ ∀ x ∈ t, x < 256) : IsJ w ok (jv k b n (strOf t) (.slice none 0 0) (.slice none 0 0)) (.mk k b n t [] []) :=
  .mk (vs := []) hk hn ht (SlIs.nil w ok) (fun _ h => nomatch h) (Nat.zero_le _) (SlIs.nil w ok) rfl (Nat.zero_le _) (fun i v x h => by simp at h)

/-- Six cells are written. -/
abbrev put6 (w : World) (g : Nat) (a b c d e f : Value) : World := (((((w.setCell ⟨g, 0, none⟩ a).setCell ⟨g, 1, none⟩ b).setCell ⟨g, 2, none⟩ c).setCell ⟨g, 3, none⟩ d).setCell ⟨g, 4, none⟩ e).setCell ⟨g, 5, none⟩ f
section
variable {w w' : World} {g : Nat} {ty : TypeId} {a b c d e f x0 x1 x2 x3 x4 x5 : Value}
theorem Lies.put6 (h : Lies w g ty [x0, x1, x2, x3, x4, x5]) : Lies (put6 w g a b c d e f) g ty [a, b, c, d, e, f] := by
  have := (((((h.put 0 a).put 1 b).put 2 c).put 3 d).put 4 e).put 5 f
  simpa using this
theorem Lies.six (h : Lies w g ty [a, b, c, d, e, f]) : (w.cell? ⟨g, 0, none⟩ = some a ∧ w.cell? ⟨g, 1, none⟩ = some b ∧ w.cell? ⟨g, 2, none⟩ = some c ∧ w.cell? ⟨g, 3, none⟩ = some d ∧ w.cell? ⟨g, 4, none⟩ = some e ∧ w.cell? ⟨g, 5, none⟩ = some f) ∧
    (w.frozen? ⟨g, 0, none⟩ = false ∧ w.frozen? ⟨g, 1, none⟩ = false ∧ w.frozen? ⟨g, 2, none⟩ = false ∧ w.frozen? ⟨g, 3, none⟩ = false ∧ w.frozen? ⟨g, 4, none⟩ = false ∧ w.frozen? ⟨g, 5, none⟩ = false) :=
  ⟨⟨h.cell 0, h.cell 1, h.cell 2, h.cell 3, h.cell 4, h.cell 5⟩, h.free 0, h.free 1, h.free 2, h.free 3, h.free 4, h.free 5⟩
theorem put6_far {k : Nat} (hk : k ≠ g) : (put6 w g a b c d e f).heap[k]? = w.heap[k]? := by
  rw [Below.heap_setCell _ _ _ _ hk, Below.heap_setCell _ _ _ _ hk, Below.heap_setCell _ _ _ _ hk, Below.heap_setCell _ _ _ _ hk, Below.heap_setCell _ _ _ _ hk, Below.heap_setCell _ _ _ _ hk]
theorem put6_size : (put6 w g a b c d e f).heap.size = w.heap.size := by simp [World.setCell]
theorem gb_put6 : w.grownBy (put6 w g a b c d e f) (some g) :=
  gb_trans (gb_trans (gb_trans (gb_trans (gb_trans (gb_set _ _ _ _) (gb_set _ _ _ _)) (gb_set _ _ _ _)) (gb_set _ _ _ _)) (gb_set _ _ _ _)) (gb_set _ _ _ _)
end
theorem IsJ.put6 {w : World} {g B : Nat} {a b c d e f v : Value} {x : Jq.J} (h : IsJ w (B ≤ ·) v x) (hg : g < B) : IsJ (put6 w g a b c d e f) (B ≤ ·) v x :=
  h.keep (fun k hk _ => ⟨hk, put6_far (by have : B ≤ k := hk; omega)⟩) (Nat.le_of_eq put6_size.symm)
/-- A cell of the call's own that the callee leaves alone, while it may write to block R. -/
theorem Lies.gb {w w' : World} {g R : Nat} {t : TypeId} {cs : List Value} (h : Lies w g t cs) (hb : w.grownBy w' (some R)) (hg : g ≠ R) : Lies w' g t cs := h.grown hb (by simpa using hg)
theorem Rd.gb {W w w' : World} {R d g : Nat} {s : ByteArray} (h : Rd W R s d w) (hb : w.grownBy w' (some g)) (hg : R ≠ g) (hW : W.heap.size ≤ g) : Rd W R s d w' :=
  ⟨h.held, h.below.trans (gb_down hb h.below.size hW), h.le, h.lies.gb hb hg, h.small, h.deep⟩
/-- What is written to a block that lies above is not told. -/
theorem gb_new {w w1 w2 : World} {R g : Nat} (h1 : w.grownBy w1 (some R)) (h2 : w1.grownBy w2 (some g)) (hg : w.heap.size ≤ g) : w.grownBy w2 (some R) :=
  ⟨h2.os.trans h1.os, h2.tape.trans h1.tape, h2.output.trans h1.output, Nat.le_trans h1.size h2.size, fun k hk hr => (h2.block k (Nat.lt_of_lt_of_le hk h1.size) (fun e => by injection e with e; omega)).trans (h1.block k hk hr)⟩
/-- A store into another block. -/
theorem own_far {w w' : World} {base : Nat} {e : TypeId} {size n : Nat} {v : Value} {xs : List Value} (h : w.ownsRow base e size v n xs) (hk : ∀ k, v.ownBlock = some k → w'.heap[k]? = w.heap[k]?) : w'.ownsRow base e size v n xs := by
  refine ⟨h.1, ?_⟩
  rcases h.2 with hn | ⟨g, cap, cur, rfl, hb, hg, rest⟩
  · exact .inl hn
  · exact .inr ⟨g, cap, cur, rfl, hb, (hk g rfl).trans hg, rest⟩
end Go.Proofs.YthklgpflaghojaaGreatDoor
