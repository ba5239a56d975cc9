/-
  Texts joined, in build order, each with its own comment and its own conditions: Shelf, W14Times, W15Steps, W16Math.
-/
import Derived.Shelf.Strings.Trim
import Derived.Shelf.Small.Strs
import Derived.Shelf.Small.Wraps
import Derived.Shelf.Strconv.Atoi
import Derived.Shelf.Strings.Search1
import Derived.Shelf.Strings.Search2
import Derived.Shelf.Strings.Count
import Derived.Shelf.Strings.Prefix
import Derived.Test.YtehdnbidgphecaaGreatDoorProg
import Derived.Test.YtehdnbidgphecaaGreatDoorJ03
import Derived.Shelf.Strings.SlTrimAscii
import Derived.Lib.IndexLaws
import Derived.Lib.SmallJoins
/-
  The library's contracts that this seat's proofs use, laid at the seat's translation by the kit's own commands (lay-shelf, lay-plain): each says what one function of Go's library returns, under the conditions that stand in its statement.
-/
namespace Go.Proofs
open Go.Shelf
def Tryz.lays160_ren : Go.Shelf.Ren := ⟨fun | 160 => 72 | 232 => 89 | 231 => 88 | 227 => 90 | 234 => 92 | 233 => 91 | 236 => 94 | 235 => 93 | 228 => 104 | 271 => 107 | 151 => 106 | 197 => 105 | 120 => 118 | 152 => 117 | 260 => 116 | 137 => 128 | 119 => 129 | 224 => 130 | 225 => 131 | 217 => 132 | 266 => 140 | n => n, fun | 9 => 9 | 4 => 4 | 3 => 3 | 5 => 5 | 117 => 116 | 116 => 115 | 0 => 0 | 124 => 119 | 21 => 21 | 105 => 129 | 46 => 144 | 119 => 143 | 139 => 147 | 138 => 146 | n => n, fun | 3 => 1 | 4 => 2 | n => n⟩
theorem Tryz.lays160 : Go.Proofs.Lays.n160 Tryz.prog Tryz.lays160_ren := {
  mixed := by kernel_rfl
  f119 := Tryz.func129.trans (congrArg some (by kernel_rfl))
  f120 := Tryz.func118.trans (congrArg some (by kernel_rfl))
  f137 := Tryz.func128.trans (congrArg some (by kernel_rfl))
  f151 := Tryz.func106.trans (congrArg some (by kernel_rfl))
  f152 := Tryz.func117.trans (congrArg some (by kernel_rfl))
  f160 := Tryz.func72.trans (congrArg some (by kernel_rfl))
  f197 := Tryz.func105.trans (congrArg some (by kernel_rfl))
  f217 := Tryz.func132.trans (congrArg some (by kernel_rfl))
  f224 := Tryz.func130.trans (congrArg some (by kernel_rfl))
  f225 := Tryz.func131.trans (congrArg some (by kernel_rfl))
  f227 := Tryz.func90.trans (congrArg some (by kernel_rfl))
  f228 := Tryz.func104.trans (congrArg some (by kernel_rfl))
  f231 := Tryz.func88.trans (congrArg some (by kernel_rfl))
  f232 := Tryz.func89.trans (congrArg some (by kernel_rfl))
  f233 := Tryz.func91.trans (congrArg some (by kernel_rfl))
  f234 := Tryz.func92.trans (congrArg some (by kernel_rfl))
  f235 := Tryz.func93.trans (congrArg some (by kernel_rfl))
  f236 := Tryz.func94.trans (congrArg some (by kernel_rfl))
  f260 := Tryz.func116.trans (congrArg some (by kernel_rfl))
  f266 := Tryz.func140.trans (congrArg some (by kernel_rfl))
  f271 := Tryz.func107.trans (congrArg some (by kernel_rfl))
  t0 := Tryz.underlying0
  a0 := Tryz.isAgg0
  z0 := Tryz.sizeOf0
  v0 := Tryz.zeroValue0
  t3 := Tryz.underlying3
  a3 := Tryz.isAgg3
  z3 := Tryz.sizeOf3
  v3 := Tryz.zeroValue3
  t4 := Tryz.underlying4
  a4 := Tryz.isAgg4
  z4 := Tryz.sizeOf4
  v4 := Tryz.zeroValue4
  t5 := Tryz.underlying5
  a5 := Tryz.isAgg5
  z5 := Tryz.sizeOf5
  v5 := Tryz.zeroValue5
  t9 := Tryz.underlying9
  a9 := Tryz.isAgg9
  z9 := Tryz.sizeOf9
  v9 := Tryz.zeroValue9
  t21 := Tryz.underlying21
  a21 := Tryz.isAgg21
  z21 := Tryz.sizeOf21
  v21 := Tryz.zeroValue21
  t46 := Tryz.underlying144
  a46 := Tryz.isAgg144
  z46 := Tryz.sizeOf144
  v46 := Tryz.zeroValue144
  t105 := Tryz.underlying129
  a105 := Tryz.isAgg129
  z105 := Tryz.sizeOf129
  v105 := Tryz.zeroValue129
  t116 := Tryz.underlying115
  a116 := Tryz.isAgg115
  z116 := Tryz.sizeOf115
  t117 := Tryz.underlying116
  a117 := Tryz.isAgg116
  z117 := Tryz.sizeOf116
  v117 := Tryz.zeroValue116
  t119 := Tryz.underlying143
  a119 := Tryz.isAgg143
  z119 := Tryz.sizeOf143
  t124 := Tryz.underlying119
  a124 := Tryz.isAgg119
  z124 := Tryz.sizeOf119
  v124 := Tryz.zeroValue119
  t138 := Tryz.underlying146
  a138 := Tryz.isAgg146
  z138 := Tryz.sizeOf146
  v138 := Tryz.zeroValue146
  t139 := Tryz.underlying147
  a139 := Tryz.isAgg147
  z139 := Tryz.sizeOf147
  v139 := Tryz.zeroValue147
  g3 := by kernel_rfl
  g4 := by kernel_rfl }
def Tryz.lays137_ren : Go.Shelf.Ren := ⟨fun | 137 => 128 | 217 => 132 | 266 => 140 | n => n, fun | 9 => 9 | 5 => 5 | 3 => 3 | n => n, fun | n => n⟩
theorem Tryz.lays137 : Go.Proofs.Lays.n137 Tryz.prog Tryz.lays137_ren := {
  mixed := by kernel_rfl
  f137 := Tryz.func128.trans (congrArg some (by kernel_rfl))
  f217 := Tryz.func132.trans (congrArg some (by kernel_rfl))
  f266 := Tryz.func140.trans (congrArg some (by kernel_rfl))
  t3 := Tryz.underlying3
  a3 := Tryz.isAgg3
  z3 := Tryz.sizeOf3
  v3 := Tryz.zeroValue3
  t5 := Tryz.underlying5
  a5 := Tryz.isAgg5
  z5 := Tryz.sizeOf5
  v5 := Tryz.zeroValue5
  t9 := Tryz.underlying9
  a9 := Tryz.isAgg9
  z9 := Tryz.sizeOf9
  v9 := Tryz.zeroValue9 }
open Go.RowKit in
theorem Tryz.strings_IndexByte (s : ByteArray) (c : Int) (w : World) :
    Calls Tryz.prog 128 #[.string s, .int .u8 c] w fun e w' => e = .returned (.int .i64 (Lib.indexByte s.data.toList c.toNat.toUInt8)) ∧ w' = w := Any.strings_IndexByte Tryz.lays137 s c w
def Tryz.lays103_ren : Go.Shelf.Ren := ⟨fun | 103 => 134 | 210 => 142 | 206 => 77 | n => n, fun | 9 => 9 | 4 => 4 | 24 => 109 | 3 => 3 | n => n, fun | n => n⟩
theorem Tryz.lays103 : Go.Proofs.Lays.n103 Tryz.prog Tryz.lays103_ren := {
  mixed := by kernel_rfl
  f103 := Tryz.func134.trans (congrArg some (by kernel_rfl))
  f206 := Tryz.func77.trans (congrArg some (by kernel_rfl))
  f210 := Tryz.func142.trans (congrArg some (by kernel_rfl))
  t3 := Tryz.underlying3
  a3 := Tryz.isAgg3
  z3 := Tryz.sizeOf3
  v3 := Tryz.zeroValue3
  t4 := Tryz.underlying4
  a4 := Tryz.isAgg4
  z4 := Tryz.sizeOf4
  v4 := Tryz.zeroValue4
  t9 := Tryz.underlying9
  a9 := Tryz.isAgg9
  z9 := Tryz.sizeOf9
  v9 := Tryz.zeroValue9
  t24 := Tryz.underlying109
  a24 := Tryz.isAgg109
  z24 := Tryz.sizeOf109
  v24 := Tryz.zeroValue109 }
open Go.RowKit in
theorem Tryz.strings_CutPrefix (s p : ByteArray) (w : World) :
    Calls Tryz.prog 134 #[.string s, .string p] w fun e w' => e = .returned (.tuple #[.string ⟨(Lib.trimPrefix s.data.toList p.data.toList).toArray⟩, .bool (Lib.hasPrefix s.data.toList p.data.toList)]) ∧ w' = w := Any.strings_CutPrefix Tryz.lays103 s p w
def Tryz.lays172_ren : Go.Shelf.Ren := ⟨fun | 172 => 139 | 244 => 145 | 245 => 146 | 247 => 150 | 279 => 151 | 280 => 152 | 281 => 153 | 282 => 154 | 287 => 155 | 316 => 156 | 171 => 158 | 205 => 157 | 321 => 159 | 322 => 160 | 243 => 161 | 246 => 162 | 283 => 163 | 284 => 164 | 285 => 165 | 286 => 166 | 129 => 168 | 317 => 167 | 318 => 169 | 319 => 170 | 320 => 171 | 337 => 172 | 338 => 173 | n => n, fun | 9 => 9 | 3 => 3 | 75 => 154 | 76 => 155 | 4 => 4 | 5 => 5 | 167 => 169 | 37 => 157 | 0 => 0 | 85 => 170 | 2 => 2 | 168 => 172 | 53 => 175 | 175 => 176 | 46 => 144 | 210 => 179 | 127 => 183 | 145 => 186 | 143 => 184 | 21 => 21 | 171 => 188 | 173 => 191 | 212 => 194 | 51 => 158 | 20 => 20 | 213 => 195 | 232 => 199 | 233 => 200 | 80 => 142 | n => n, fun | 15 => 3 | 16 => 4 | 17 => 5 | 18 => 6 | 19 => 7 | n => n⟩
theorem Tryz.lays172 : Go.Proofs.Lays.n172 Tryz.prog Tryz.lays172_ren := {
  mixed := by kernel_rfl
  f129 := Tryz.func168.trans (congrArg some (by kernel_rfl))
  f171 := Tryz.func158.trans (congrArg some (by kernel_rfl))
  f172 := Tryz.func139.trans (congrArg some (by kernel_rfl))
  f205 := Tryz.func157.trans (congrArg some (by kernel_rfl))
  f243 := Tryz.func161.trans (congrArg some (by kernel_rfl))
  f244 := Tryz.func145.trans (congrArg some (by kernel_rfl))
  f245 := Tryz.func146.trans (congrArg some (by kernel_rfl))
  f246 := Tryz.func162.trans (congrArg some (by kernel_rfl))
  f247 := Tryz.func150.trans (congrArg some (by kernel_rfl))
  f279 := Tryz.func151.trans (congrArg some (by kernel_rfl))
  f280 := Tryz.func152.trans (congrArg some (by kernel_rfl))
  f281 := Tryz.func153.trans (congrArg some (by kernel_rfl))
  f282 := Tryz.func154.trans (congrArg some (by kernel_rfl))
  f283 := Tryz.func163.trans (congrArg some (by kernel_rfl))
  f284 := Tryz.func164.trans (congrArg some (by kernel_rfl))
  f285 := Tryz.func165.trans (congrArg some (by kernel_rfl))
  f286 := Tryz.func166.trans (congrArg some (by kernel_rfl))
  f287 := Tryz.func155.trans (congrArg some (by kernel_rfl))
  f316 := Tryz.func156.trans (congrArg some (by kernel_rfl))
  f317 := Tryz.func167.trans (congrArg some (by kernel_rfl))
  f318 := Tryz.func169.trans (congrArg some (by kernel_rfl))
  f319 := Tryz.func170.trans (congrArg some (by kernel_rfl))
  f320 := Tryz.func171.trans (congrArg some (by kernel_rfl))
  f321 := Tryz.func159.trans (congrArg some (by kernel_rfl))
  f322 := Tryz.func160.trans (congrArg some (by kernel_rfl))
  f337 := Tryz.func172.trans (congrArg some (by kernel_rfl))
  f338 := Tryz.func173.trans (congrArg some (by kernel_rfl))
  t0 := Tryz.underlying0
  a0 := Tryz.isAgg0
  z0 := Tryz.sizeOf0
  v0 := Tryz.zeroValue0
  t2 := Tryz.underlying2
  a2 := Tryz.isAgg2
  z2 := Tryz.sizeOf2
  v2 := Tryz.zeroValue2
  t3 := Tryz.underlying3
  a3 := Tryz.isAgg3
  z3 := Tryz.sizeOf3
  v3 := Tryz.zeroValue3
  t4 := Tryz.underlying4
  a4 := Tryz.isAgg4
  z4 := Tryz.sizeOf4
  v4 := Tryz.zeroValue4
  t5 := Tryz.underlying5
  a5 := Tryz.isAgg5
  z5 := Tryz.sizeOf5
  v5 := Tryz.zeroValue5
  t9 := Tryz.underlying9
  a9 := Tryz.isAgg9
  z9 := Tryz.sizeOf9
  v9 := Tryz.zeroValue9
  t20 := Tryz.underlying20
  a20 := Tryz.isAgg20
  z20 := Tryz.sizeOf20
  v20 := Tryz.zeroValue20
  t21 := Tryz.underlying21
  a21 := Tryz.isAgg21
  z21 := Tryz.sizeOf21
  v21 := Tryz.zeroValue21
  t37 := Tryz.underlying157
  a37 := Tryz.isAgg157
  z37 := Tryz.sizeOf157
  v37 := Tryz.zeroValue157
  t46 := Tryz.underlying144
  a46 := Tryz.isAgg144
  z46 := Tryz.sizeOf144
  v46 := Tryz.zeroValue144
  t51 := Tryz.underlying158
  a51 := Tryz.isAgg158
  z51 := Tryz.sizeOf158
  v51 := Tryz.zeroValue158
  t53 := Tryz.underlying175
  a53 := Tryz.isAgg175
  z53 := Tryz.sizeOf175
  v53 := Tryz.zeroValue175
  t75 := Tryz.underlying154
  a75 := Tryz.isAgg154
  z75 := Tryz.sizeOf154
  v75 := Tryz.zeroValue154
  t76 := Tryz.underlying155
  a76 := Tryz.isAgg155
  z76 := Tryz.sizeOf155
  v76 := Tryz.zeroValue155
  t85 := Tryz.underlying170
  a85 := Tryz.isAgg170
  z85 := Tryz.sizeOf170
  v85 := Tryz.zeroValue170
  t127 := Tryz.underlying183
  a127 := Tryz.isAgg183
  z127 := Tryz.sizeOf183
  v127 := Tryz.zeroValue183
  t143 := Tryz.underlying184
  a143 := Tryz.isAgg184
  z143 := Tryz.sizeOf184
  v143 := Tryz.zeroValue184
  t145 := Tryz.underlying186
  a145 := Tryz.isAgg186
  z145 := Tryz.sizeOf186
  v145 := Tryz.zeroValue186
  t167 := Tryz.underlying169
  a167 := Tryz.isAgg169
  z167 := Tryz.sizeOf169
  v167 := Tryz.zeroValue169
  t168 := Tryz.underlying172
  a168 := Tryz.isAgg172
  z168 := Tryz.sizeOf172
  v168 := Tryz.zeroValue172
  t171 := Tryz.underlying188
  a171 := Tryz.isAgg188
  z171 := Tryz.sizeOf188
  v171 := Tryz.zeroValue188
  t173 := Tryz.underlying191
  a173 := Tryz.isAgg191
  z173 := Tryz.sizeOf191
  v173 := Tryz.zeroValue191
  t175 := Tryz.underlying176
  a175 := Tryz.isAgg176
  z175 := Tryz.sizeOf176
  v175 := Tryz.zeroValue176
  t210 := Tryz.underlying179
  a210 := Tryz.isAgg179
  z210 := Tryz.sizeOf179
  v210 := Tryz.zeroValue179
  t212 := Tryz.underlying194
  a212 := Tryz.isAgg194
  z212 := Tryz.sizeOf194
  v212 := Tryz.zeroValue194
  t213 := Tryz.underlying195
  a213 := Tryz.isAgg195
  z213 := Tryz.sizeOf195
  t232 := Tryz.underlying199
  a232 := Tryz.isAgg199
  z232 := Tryz.sizeOf199
  v232 := Tryz.zeroValue199
  t233 := Tryz.underlying200
  a233 := Tryz.isAgg200
  z233 := Tryz.sizeOf200
  v233 := Tryz.zeroValue200
  g15 := by kernel_rfl
  g16 := by kernel_rfl
  g17 := by kernel_rfl
  g18 := by kernel_rfl
  g19 := by kernel_rfl }
open Go.RowKit in
theorem Tryz.strconv_Atoi (s : ByteArray) (n : Int) (hl : s.size ≤ 18) (h : Lib.atoi s.data.toList = some n) (w : World) :
    Calls Tryz.prog 139 #[.string s] w fun e w' => e = .returned (.tuple #[.int .i64 n, .nilIface]) ∧ ∃ t, w' = Lib.bytesWorld w 5 t := Any.strconv_Atoi Tryz.lays172 s n hl h w
def Tryz.lays219_ren : Go.Shelf.Ren := ⟨fun | 219 => 119 | 217 => 132 | 225 => 131 | 224 => 130 | 267 => 133 | 266 => 140 | 314 => 141 | n => n, fun | 9 => 9 | 3 => 3 | 4 => 4 | 5 => 5 | 46 => 144 | 146 => 159 | 51 => 158 | n => n, fun | 1 => 0 | n => n⟩
theorem Tryz.lays219 : Go.Proofs.Lays.n219 Tryz.prog Tryz.lays219_ren := {
  mixed := by kernel_rfl
  f217 := Tryz.func132.trans (congrArg some (by kernel_rfl))
  f219 := Tryz.func119.trans (congrArg some (by kernel_rfl))
  f224 := Tryz.func130.trans (congrArg some (by kernel_rfl))
  f225 := Tryz.func131.trans (congrArg some (by kernel_rfl))
  f266 := Tryz.func140.trans (congrArg some (by kernel_rfl))
  f267 := Tryz.func133.trans (congrArg some (by kernel_rfl))
  f314 := Tryz.func141.trans (congrArg some (by kernel_rfl))
  t3 := Tryz.underlying3
  a3 := Tryz.isAgg3
  z3 := Tryz.sizeOf3
  v3 := Tryz.zeroValue3
  t4 := Tryz.underlying4
  a4 := Tryz.isAgg4
  z4 := Tryz.sizeOf4
  v4 := Tryz.zeroValue4
  t5 := Tryz.underlying5
  a5 := Tryz.isAgg5
  z5 := Tryz.sizeOf5
  v5 := Tryz.zeroValue5
  t9 := Tryz.underlying9
  a9 := Tryz.isAgg9
  z9 := Tryz.sizeOf9
  v9 := Tryz.zeroValue9
  t46 := Tryz.underlying144
  a46 := Tryz.isAgg144
  z46 := Tryz.sizeOf144
  v46 := Tryz.zeroValue144
  t51 := Tryz.underlying158
  a51 := Tryz.isAgg158
  z51 := Tryz.sizeOf158
  v51 := Tryz.zeroValue158
  t146 := Tryz.underlying159
  a146 := Tryz.isAgg159
  z146 := Tryz.sizeOf159
  v146 := Tryz.zeroValue159
  g1 := by kernel_rfl }
open Go.RowKit Go.Lib in
theorem Tryz.stringslite_Index_one (s : ByteArray) (c : UInt8) (w : World) :
    Calls Tryz.prog 119 #[.string s, .string ⟨#[c]⟩] w fun e w' => e = .returned (.int .i64 (Lib.indexByte s.data.toList c)) ∧ w' = w := Any.stringslite_Index_one Tryz.lays219 s c w
def Tryz.lays138_ren : Go.Shelf.Ren := ⟨fun | 138 => 95 | 195 => 108 | 218 => 109 | 143 => 110 | 219 => 119 | 217 => 132 | 225 => 131 | 224 => 130 | 267 => 133 | 266 => 140 | 314 => 141 | n => n, fun | 9 => 9 | 3 => 3 | 4 => 4 | 5 => 5 | 0 => 0 | 46 => 144 | 146 => 159 | 51 => 158 | n => n, fun | 1 => 0 | n => n⟩
theorem Tryz.lays138 : Go.Proofs.Lays.n138 Tryz.prog Tryz.lays138_ren := {
  mixed := by kernel_rfl
  f138 := Tryz.func95.trans (congrArg some (by kernel_rfl))
  f143 := Tryz.func110.trans (congrArg some (by kernel_rfl))
  f195 := Tryz.func108.trans (congrArg some (by kernel_rfl))
  f217 := Tryz.func132.trans (congrArg some (by kernel_rfl))
  f218 := Tryz.func109.trans (congrArg some (by kernel_rfl))
  f219 := Tryz.func119.trans (congrArg some (by kernel_rfl))
  f224 := Tryz.func130.trans (congrArg some (by kernel_rfl))
  f225 := Tryz.func131.trans (congrArg some (by kernel_rfl))
  f266 := Tryz.func140.trans (congrArg some (by kernel_rfl))
  f267 := Tryz.func133.trans (congrArg some (by kernel_rfl))
  f314 := Tryz.func141.trans (congrArg some (by kernel_rfl))
  t0 := Tryz.underlying0
  a0 := Tryz.isAgg0
  z0 := Tryz.sizeOf0
  v0 := Tryz.zeroValue0
  t3 := Tryz.underlying3
  a3 := Tryz.isAgg3
  z3 := Tryz.sizeOf3
  v3 := Tryz.zeroValue3
  t4 := Tryz.underlying4
  a4 := Tryz.isAgg4
  z4 := Tryz.sizeOf4
  v4 := Tryz.zeroValue4
  t5 := Tryz.underlying5
  a5 := Tryz.isAgg5
  z5 := Tryz.sizeOf5
  v5 := Tryz.zeroValue5
  t9 := Tryz.underlying9
  a9 := Tryz.isAgg9
  z9 := Tryz.sizeOf9
  v9 := Tryz.zeroValue9
  t46 := Tryz.underlying144
  a46 := Tryz.isAgg144
  z46 := Tryz.sizeOf144
  v46 := Tryz.zeroValue144
  t51 := Tryz.underlying158
  a51 := Tryz.isAgg158
  z51 := Tryz.sizeOf158
  v51 := Tryz.zeroValue158
  t146 := Tryz.underlying159
  a146 := Tryz.isAgg159
  z146 := Tryz.sizeOf159
  v146 := Tryz.zeroValue159
  g1 := by kernel_rfl }
open Go.RowKit Go.Lib in
theorem Tryz.strings_Count_one (s : ByteArray) (c : UInt8) (w : World) :
    Calls Tryz.prog 95 #[.string s, .string ⟨#[c]⟩] w fun e w' => e = .returned (.int .i64 (Lib.countByte s.data.toList c)) ∧ w' = w := Any.strings_Count_one Tryz.lays138 s c w
def Tryz.lays99_ren : Go.Shelf.Ren := ⟨fun | 99 => 57 | 206 => 77 | n => n, fun | 9 => 9 | 4 => 4 | 3 => 3 | n => n, fun | n => n⟩
theorem Tryz.lays99 : Go.Proofs.Lays.n99 Tryz.prog Tryz.lays99_ren := {
  mixed := by kernel_rfl
  f99 := Tryz.func57.trans (congrArg some (by kernel_rfl))
  f206 := Tryz.func77.trans (congrArg some (by kernel_rfl))
  t3 := Tryz.underlying3
  a3 := Tryz.isAgg3
  z3 := Tryz.sizeOf3
  v3 := Tryz.zeroValue3
  t4 := Tryz.underlying4
  a4 := Tryz.isAgg4
  z4 := Tryz.sizeOf4
  v4 := Tryz.zeroValue4
  t9 := Tryz.underlying9
  a9 := Tryz.isAgg9
  z9 := Tryz.sizeOf9
  v9 := Tryz.zeroValue9 }
open Go.RowKit Go.Lib in
theorem Tryz.strings_HasPrefix (s p : ByteArray) (w : World) :
    Calls Tryz.prog 57 #[.string s, .string p] w fun e w' => e = .returned (.bool (Lib.hasPrefix s.data.toList p.data.toList)) ∧ w' = w := Any.strings_HasPrefix Tryz.lays99 s p w
end Go.Proofs
/-
  Layer 14 (pattern), walks of strings.Cut at one byte and of the program's isNumber, value, mayBe. The conditions stand in the statements.
-/
namespace Go.Proofs.YtehdnbidgphecaaGreatDoor.W14
set_option maxRecDepth 100000
open Go Go.RowKit Go.Proofs.YtehdnbidgphecaaGreatDoor.M14
open Go.Proofs.YtehdnbidgphecaaGreatDoor.Row256 (Beside)
open Go.Proofs.YtehdnbidgphecaaGreatDoor.Kit (ret_str ret_bool ret_int mk_of mk_bytes ba_ext below_draws on list_full list_ne list_none list_nil)

theorem index_here {l : List UInt8} {c : UInt8} (h : c ∈ l) : Lib.indexByte l c = ((before c l).length : Int) := by
  induction l with
  | nil => simp at h
  | cons d l ih =>
    unfold Lib.indexByte
    by_cases e : d = c
    · subst e; rw [before_here]; simp
    · have hl : c ∈ l := by
        rcases List.mem_cons.1 h with q | q
        · exact absurd q.symm e
        · exact q
      rw [if_neg (by simpa using e), ih hl, before_skip e, if_neg (by simp)]
      simp
theorem index_none {l : List UInt8} {c : UInt8} (h : ¬ c ∈ l) : Lib.indexByte l c = -1 := by
  induction l with
  | nil => rfl
  | cons d l ih =>
    unfold Lib.indexByte
    have e : ¬ d = c := fun e => h (by simp [e])
    rw [if_neg (by simpa using e), ih (fun q => h (by simp [q]))]
    rfl
theorem before_take {l : List UInt8} {c : UInt8} : l.take (before c l).length = before c l := by
  induction l with
  | nil => rfl
  | cons d l ih =>
    by_cases e : d = c
    · subst e; rw [before_here]; rfl
    · rw [before_skip e]; simp [ih]
theorem before_drop {l : List UInt8} {c : UInt8} : l.drop ((before c l).length + 1) = behind c l := by
  induction l with
  | nil => rfl
  | cons d l ih =>
    by_cases e : d = c
    · subst e; rw [before_here, behind_here]; rfl
    · rw [before_skip e]
      have : behind c (d :: l) = behind c l := by unfold behind; simp [e]
      rw [this, ← ih]; simp
theorem before_less {l : List UInt8} {c : UInt8} (h : c ∈ l) : (before c l).length < l.length := by
  induction l with
  | nil => simp at h
  | cons d l ih =>
    by_cases e : d = c
    · subst e; rw [before_here]; simp
    · have hl : c ∈ l := by
        rcases List.mem_cons.1 h with q | q
        · exact absurd q.symm e
        · exact q
      rw [before_skip e]; simp only [List.length_cons]; have := ih hl; omega
theorem behind_none {l : List UInt8} {c : UInt8} (h : ¬ c ∈ l) : behind c l = [] := by
  have := behind_clean h []
  rw [List.append_nil] at this
  rw [this]; rfl
/-- what a cut at one byte returns -/
def CutAt (w : World) (d : Bool) (A B : List UInt8) (e : Ending) (w' : World) : Prop := ∃ a b : ByteArray, e = .returned (.tuple #[.string a, .string b, .bool d]) ∧ a.data.toList = A ∧ b.data.toList = B ∧ ∃ n, w' = w.drewN n
theorem bytes_mk (l : List UInt8) : (⟨l.toArray⟩ : ByteArray).data.toList = l := rfl
set_option maxHeartbeats 1000000 in
theorem cutL_any (s : ByteArray) (hs : s.size ≤ 1000000) (c : UInt8) (w : World) : Calls Tryz.prog 138 #[.string s, .string ⟨#[c]⟩] w (CutAt w (decide (c ∈ s.data.toList)) (before c s.data.toList) (behind c s.data.toList)) := by
  have hl : s.data.toList.length = s.size := (Lib.size_eq s).symm
  by_cases hc : c ∈ s.data.toList
  · have HI := Lib.hid (index_here hc)
    have hlt := before_less hc
    have HA : Hid ((s.extract 0 (before c s.data.toList).length).data.toList = before c s.data.toList) := by
      show _ = _
      rw [Kit.take_bytes, before_take]
    have HB : Hid ((s.extract ((before c s.data.toList).length + 1) s.size).data.toList = behind c s.data.toList) := by
      show _ = _
      rw [Kit.drop_bytes, before_drop]
    have HD := Lib.hid (decide_eq_true hc)
    rw [HD.out]
    have HCA := HA.out.symm
    have HCB := HB.out.symm
    obtain ⟨k, hk⟩ : ∃ k, (before c s.data.toList).length = k := ⟨_, rfl⟩
    rw [hk] at HI HA HB HCA HCB hlt
    rw [HCA, HCB]
    have h1 : k < s.size := by omega
    have h2 : (k : Int) < (s.size : Int) := by omega
    have hw : wrap64 ((k : Int) + 1) = ((k + 1 : Nat) : Int) := by unfold wrap64; omega
    have h3 : ((k + 1 : Nat) : Int) ≤ (s.size : Int) := by omega
    clear HA HB HCA HCB hk hlt hl hc HD
    go_enter Tryz.func138, Tryz.ntmps138
    go_wp2_with (go_at_call 119; refine (Tryz.stringslite_Index_one s c w).mono ?_; rintro e w' ⟨rfl, rfl⟩; rw [HI.out])
    go_quiet (fail)
    go_wp2_with fail
    refine bodyPost_ret (results_tmp3 rfl _ _ _) rfl ?_
    exact ⟨_, _, rfl, by first | rfl | (simp), by first | rfl | simp, nq, rfl⟩
  · have HI := Lib.hid (index_none hc)
    have HD := Lib.hid (decide_eq_false hc)
    have HB := Lib.hid (behind_none hc)
    have HA := Lib.hid (before_all hc)
    rw [HD.out, HA.out, HB.out]
    clear HA HB HD hl hc
    go_enter Tryz.func138, Tryz.ntmps138
    go_wp2_with (go_at_call 119; refine (Tryz.stringslite_Index_one s c w).mono ?_; rintro e w' ⟨rfl, rfl⟩; rw [HI.out])
    refine bodyPost_ret (results_tmp3 rfl _ _ _) rfl ?_
    exact ⟨_, _, rfl, rfl, rfl, 0, rfl⟩
theorem cut_any (s : ByteArray) (hs : s.size ≤ 1000000) (c : UInt8) (w : World) : Calls Tryz.prog 122 #[.string s, .string ⟨#[c]⟩] w (CutAt w (decide (c ∈ s.data.toList)) (before c s.data.toList) (behind c s.data.toList)) := by
  have HC := Lib.hid (cutL_any s hs c w)
  generalize decide (c ∈ s.data.toList) = d at *
  generalize before c s.data.toList = A at *
  generalize behind c s.data.toList = B at *
  go_enter Tryz.func122, Tryz.ntmps122
  go_wp2_with fail
  refine HC.out.mono ?_
  rintro e w' ⟨a, b, rfl, h1, h2, n, rfl⟩
  have H1 := Lib.hid h1
  have H2 := Lib.hid h2
  clear h1 h2
  go_wp2_with fail
  refine bodyPost_ret (results_tmp3 rfl _ _ _) rfl ?_
  exact ⟨a, b, rfl, H1.out, H2.out, n, rfl⟩

/-! digits -/
theorem info256 : (Tryz.prog.info? (Tryz.lays160_ren.t 116)).map (fun i => (i.zero, i.size)) = some (some (.agg (Array.replicate 256 (.bool false))), 256) := by kernel_rfl
def tens : List UInt8 := [48, 49, 50, 51, 52, 53, 54, 55, 56, 57]
theorem tens_dig (c : UInt8) : tens.contains c = dig c := by
  have h : ∀ n : Fin 256, tens.contains (UInt8.ofNat n.val) = dig (UInt8.ofNat n.val) := by decide +kernel
  have := h ⟨c.toNat, c.toNat_lt⟩
  simpa using this
theorem drop_dig : ∀ (l : List UInt8), l.all dig = true → l.dropWhile dig = []
  | [], _ => rfl
  | c :: l, h => by
    rw [List.all_cons, Bool.and_eq_true] at h
    rw [List.dropWhile_cons_of_pos h.1]
    exact drop_dig l h.2
theorem trim_nil {t : List UInt8} : (Lib.trimS t tens == []) = t.all dig := by
  have e : (fun c => tens.contains c) = dig := funext tens_dig
  unfold Lib.trimS Lib.trimLeftS Lib.trimRightS
  rw [e]
  cases h : t.all dig with
  | true =>
    have : t.reverse.dropWhile dig = [] := by
      refine drop_dig _ (List.all_eq_true.2 fun x hx => ?_)
      exact List.all_eq_true.1 h x (List.mem_reverse.1 hx)
    rw [this]; rfl
  | false =>
    obtain ⟨x, hx, hn⟩ : ∃ x, x ∈ t ∧ dig x = false := by
      have := List.all_eq_false.1 h
      obtain ⟨x, hx, hn⟩ := this
      exact ⟨x, hx, by simpa using hn⟩
    have h1 : ∀ l : List UInt8, x ∈ l → x ∈ l.dropWhile dig := by
      intro l
      induction l with
      | nil => intro q; simp at q
      | cons d l ih =>
        intro q
        by_cases hd : dig d = true
        · rw [List.dropWhile_cons_of_pos hd]
          rcases List.mem_cons.1 q with q | q
          · subst q; rw [hn] at hd; cases hd
          · exact ih q
        · rw [List.dropWhile_cons_of_neg hd]; exact q
    have h2 := h1 _ (List.mem_reverse.2 (h1 _ (List.mem_reverse.2 hx)))
    cases hq : (List.dropWhile dig (List.dropWhile dig t.reverse).reverse) with
    | nil => rw [hq] at h2; simp at h2
    | cons a b => rfl
theorem trim_any (s : ByteArray) (hs : s.size ≤ 1000000) (w : World) : Calls Tryz.prog 72 #[.string s, .string ⟨#[48, 49, 50, 51, 52, 53, 54, 55, 56, 57]⟩] w fun e w' => ∃ d : ByteArray, e = .returned (.string d) ∧ d.toList.isEmpty = s.data.toList.all dig ∧ Below w.heap.size w w' := by
  refine Calls.mono (Any.strings_Trim_laid Tryz.lays160 info256 s ⟨#[48, 49, 50, 51, 52, 53, 54, 55, 56, 57]⟩ w (by omega) (by decide) (ascii_of_all (by decide))) ?_
  rintro e w1 ⟨rfl, hb⟩
  refine ⟨_, rfl, ?_, hb⟩
  rw [← trim_nil, Lib.toList_data, bytes_mk]
  show (Lib.trimS s.data.toList tens).isEmpty = _
  cases Lib.trimS s.data.toList tens <;> rfl
set_option maxHeartbeats 1000000 in
theorem isNumber_any (s : ByteArray) (hs : s.size ≤ 1000000) (w : World) : Calls Tryz.prog 123 #[.string s] w fun e w' => e = .returned (.bool (isNum s.data.toList)) ∧ Below w.heap.size w w' := by
  have hl : s.data.toList.length = s.size := (Lib.size_eq s).symm
  by_cases h0 : 0 < s.size
  · have he := list_full h0
    by_cases h3 : s.size ≤ 3
    · have HV : Hid (isNum s.data.toList = s.data.toList.all dig) := by
        unfold Hid isNum
        rw [decide_eq_true (Kit.bytes_ne h0), decide_eq_true (by omega), Bool.true_and, Bool.true_and]
      have h3' : (s.size : Int) ≤ 3 := by omega
      have HT := Lib.hid (trim_any s hs w)
      rw [HV.out]
      generalize s.data.toList.all dig = b at *
      clear hl HV
      go_enter Tryz.func123, Tryz.ntmps123
      go_wp2_with fail
      refine HT.out.mono ?_
      rintro e w1 ⟨d, rfl, hd, hb⟩
      have HB := Lib.hid hb
      clear hb
      go_wp2_with fail
      go_ret
      exact ⟨rfl, HB.out⟩
    · have HV : Hid (isNum s.data.toList = false) := by
        unfold Hid isNum
        rw [decide_eq_false (p := s.data.toList.length ≤ 3) (by omega), Bool.false_and, Bool.and_false]
      have h3' : ¬ (s.size : Int) ≤ 3 := by omega
      rw [HV.out]
      clear hl HV
      go_enter Tryz.func123, Tryz.ntmps123
      go_wp2_with fail
      go_ret
      exact ⟨rfl, Below.refl _ _⟩
  · have he := list_none h0
    have HV : Hid (isNum s.data.toList = false) := by
      unfold Hid isNum
      rw [Kit.bytes_nil h0]; rfl
    rw [HV.out]
    clear hl HV
    go_enter Tryz.func123, Tryz.ntmps123
    go_wp2_with fail
    go_ret
    exact ⟨rfl, Below.refl _ _⟩
theorem digitVal_dig {c : UInt8} (h : dig c = true) : Lib.digitVal c = some (c.toNat - 48) := by
  unfold Lib.digitVal
  unfold dig at h
  simp only [Bool.and_eq_true, decide_eq_true_eq] at h
  rw [if_pos ⟨h.1, h.2⟩]
theorem decFrom_dig : ∀ (l : List UInt8) (n : Nat), l.all dig = true → Lib.decFrom n l = some (l.foldl (fun n c => n * 10 + (c.toNat - 48)) n)
  | [], n, _ => rfl
  | c :: l, n, h => by
    rw [List.all_cons, Bool.and_eq_true] at h
    unfold Lib.decFrom
    rw [digitVal_dig h.1]
    exact decFrom_dig l _ h.2
theorem atoi_num {t : List UInt8} (h : isNum t = true) : Lib.atoi t = some (val t : Int) := by
  unfold isNum at h
  simp only [Bool.and_eq_true, decide_eq_true_eq] at h
  obtain ⟨h1, -, h2⟩ := h
  cases t with
  | nil => exact absurd rfl h1
  | cons c l =>
    have hc := (List.all_cons ▸ h2 : (dig c && l.all dig) = true)
    have hd : dig c = true := (Bool.and_eq_true_iff.1 hc).1
    have n45 : ¬ c = 45 := by rintro rfl; revert hd; decide
    have n43 : ¬ c = 43 := by rintro rfl; revert hd; decide
    unfold Lib.atoi
    simp only
    rw [if_neg (by simpa using n45), if_neg (by simpa using n43)]
    unfold Lib.decNat
    rw [if_neg (by simp), decFrom_dig _ _ h2]
    rfl
theorem value_any (s : ByteArray) (h : isNum s.data.toList = true) (w : World) : Calls Tryz.prog 124 #[.string s] w fun e w' => e = .returned (.int .i64 (val s.data.toList)) ∧ Below w.heap.size w w' := by
  have hz : s.size ≤ 3 := by
    unfold isNum at h
    simp only [Bool.and_eq_true, decide_eq_true_eq] at h
    rw [Lib.size_eq]; exact h.2.1
  have HT := Lib.hid (Tryz.strconv_Atoi s (val s.data.toList) (by omega) (atoi_num h) w)
  generalize val s.data.toList = n at *
  clear h
  go_enter Tryz.func124, Tryz.ntmps124
  go_wp2_with fail
  refine HT.out.mono ?_
  rintro e w1 ⟨rfl, t, rfl⟩
  go_wp2_with fail
  go_ret
  exact ⟨rfl, Joins.below_bytesWorld _ _ _ _ (Nat.le_refl _)⟩
set_option maxHeartbeats 1000000 in
theorem mayBe_any (m t : Int) (w : World) : Calls Tryz.prog 78 #[.int .i64 m, .int .i64 t] w fun e w' => e = .returned (.bool (mayB m t)) ∧ w' = w := by
  by_cases h1 : 0 ≤ m
  · by_cases h2 : m ≤ 100
    · by_cases h3 : t = -1
      · have t3 : (t == -1) = true := by simpa using h3
        have HV : Hid (mayB m t = true) := by
          unfold Hid mayB
          simp [h1, h2, h3]
        rw [HV.out]
        clear HV
        go_enter Tryz.func78, Tryz.ntmps78
        go_wp2_with fail
        go_ret
        exact ⟨rfl, rfl⟩
      · have t3 : (t == -1) = false := by simpa using h3
        by_cases h4 : m ≤ t
        · by_cases h5 : t ≤ 100
          · skip
            have HV : Hid (mayB m t = true) := by
              unfold Hid mayB
              simp [h1, h2, h3, h4, h5]
            rw [HV.out]
            clear HV
            go_enter Tryz.func78, Tryz.ntmps78
            go_wp2_with fail
            go_ret
            exact ⟨rfl, rfl⟩
          · skip
            have HV : Hid (mayB m t = false) := by
              unfold Hid mayB
              simp [h1, h2, h3, h4, h5]
            rw [HV.out]
            clear HV
            go_enter Tryz.func78, Tryz.ntmps78
            go_wp2_with fail
            go_ret
            exact ⟨rfl, rfl⟩
        · skip
          have HV : Hid (mayB m t = false) := by
            unfold Hid mayB
            simp [h1, h2, h3, h4]
          rw [HV.out]
          clear HV
          go_enter Tryz.func78, Tryz.ntmps78
          go_wp2_with fail
          go_ret
          exact ⟨rfl, rfl⟩
    · skip
      have HV : Hid (mayB m t = false) := by
        unfold Hid mayB
        simp [h1, h2]
      rw [HV.out]
      clear HV
      go_enter Tryz.func78, Tryz.ntmps78
      go_wp2_with fail
      go_ret
      exact ⟨rfl, rfl⟩
  · skip
    have HV : Hid (mayB m t = false) := by
      unfold Hid mayB
      simp [h1]
    rw [HV.out]
    clear HV
    go_enter Tryz.func78, Tryz.ntmps78
    go_wp2_with fail
    go_ret
    exact ⟨rfl, rfl⟩
end Go.Proofs.YtehdnbidgphecaaGreatDoor.W14
/-
  Layer 15 (prog), walks of the program's isPlace, isText and goesOn: whether a step may be. The conditions stand in the statements.
-/
namespace Go.Proofs.YtehdnbidgphecaaGreatDoor.M15
set_option maxRecDepth 100000
open Go Go.Proofs.YtehdnbidgphecaaGreatDoor.M13
/-- whether a step's text may be -/
def txtOk (k : Int) (t : ByteArray) : Bool := if k = 1 then decide (t.size = 1) else if k = 3 then good t.data.toList else decide (t.size = 0)
def place (a : Int) (n : Nat) : Bool := decide (0 ≤ a) && decide (a < n)
/-- whether a step goes on as those of its kind -/
def goes (k a b : Int) (n : Nat) : Bool :=
  if k = 6 then place a n && place b n else if k = 7 then decide (a = 0) && decide (b = 0) else if 1 ≤ k ∧ k ≤ 8 then place a n && decide (b = 0) else false
def okI (n : Nat) (x : Inst) : Bool := txtOk x.kind x.text && goes x.kind x.x x.y n
/-- whether a program may be -/
def rightP (l : List Inst) : Bool := l.all (okI l.length) && decide (0 < l.length)
def zero1 (c : UInt8) : Bool := decide (c = 48) || decide (c = 49)
theorem two_digit (c : UInt8) : ([48, 49] : List UInt8).contains c = zero1 c := by
  unfold zero1
  by_cases h1 : c = 48
  · subst h1; rfl
  · by_cases h2 : c = 49
    · subst h2; rfl
    · simp [h1, h2]
theorem drop_01 : ∀ (l : List UInt8), l.all zero1 = true → l.dropWhile zero1 = []
  | [], _ => rfl
  | c :: l, h => by
    rw [List.all_cons, Bool.and_eq_true] at h
    rw [List.dropWhile_cons_of_pos h.1]
    exact drop_01 l h.2
theorem trim_01 {t : List UInt8} : (Lib.trimS t [48, 49] == []) = t.all zero1 := by
  have e : (fun c => ([48, 49] : List UInt8).contains c) = zero1 := funext two_digit
  unfold Lib.trimS Lib.trimLeftS Lib.trimRightS
  rw [e]
  cases h : t.all zero1 with
  | true =>
    have : t.reverse.dropWhile zero1 = [] := by
      refine drop_01 _ (List.all_eq_true.2 fun x hx => ?_)
      exact List.all_eq_true.1 h x (List.mem_reverse.1 hx)
    rw [this]; rfl
  | false =>
    obtain ⟨x, hx, hn⟩ : ∃ x, x ∈ t ∧ zero1 x = false := by
      have := List.all_eq_false.1 h
      obtain ⟨x, hx, hn⟩ := this
      exact ⟨x, hx, by simpa using hn⟩
    have h1 : ∀ l : List UInt8, x ∈ l → x ∈ l.dropWhile zero1 := by
      intro l
      induction l with
      | nil => intro q; simp at q
      | cons d l ih =>
        intro q
        by_cases hd : zero1 d = true
        · rw [List.dropWhile_cons_of_pos hd]
          rcases List.mem_cons.1 q with q | q
          · subst q; rw [hn] at hd; cases hd
          · exact ih q
        · rw [List.dropWhile_cons_of_neg hd]; exact q
    have h2 := h1 _ (List.mem_reverse.2 (h1 _ (List.mem_reverse.2 hx)))
    cases hq : (List.dropWhile zero1 (List.dropWhile zero1 t.reverse).reverse) with
    | nil => rw [hq] at h2; simp at h2
    | cons a b => rfl
theorem good_is (t : ByteArray) (h : t.size = 256) : good t.data.toList = t.data.toList.all zero1 := by
  unfold good
  rw [← Lib.size_eq, decide_eq_true h, Bool.true_and]; rfl
theorem good_not (t : ByteArray) (h : ¬ t.size = 256) : good t.data.toList = false := by
  unfold good
  rw [← Lib.size_eq, decide_eq_false h, Bool.false_and]
end Go.Proofs.YtehdnbidgphecaaGreatDoor.M15
namespace Go.Proofs.YtehdnbidgphecaaGreatDoor.W15
open Go Go.RowKit Go.Proofs.YtehdnbidgphecaaGreatDoor.Strs Go.Proofs.YtehdnbidgphecaaGreatDoor.Recs Go.Proofs.YtehdnbidgphecaaGreatDoor.M15
open Go.Proofs.YtehdnbidgphecaaGreatDoor.M13 (good)
open Go.Proofs.YtehdnbidgphecaaGreatDoor.Kit (below_draws on)

theorem trim01_any (s : ByteArray) (hs : s.size ≤ 1000000) (w : World) : Calls Tryz.prog 72 #[.string s, .string ⟨#[48, 49]⟩] w fun e w' => ∃ d : ByteArray, e = .returned (.string d) ∧ d.toList.isEmpty = s.data.toList.all zero1 ∧ Below w.heap.size w w' := by
  refine Calls.mono (Any.strings_Trim_laid Tryz.lays160 W14.info256 s ⟨#[48, 49]⟩ w (by omega) (by decide) (Go.Proofs.ascii_of_all (by decide))) ?_
  rintro e w1 ⟨rfl, hb⟩
  refine ⟨_, rfl, ?_, hb⟩
  rw [← trim_01, Lib.toList_data, W14.bytes_mk]
  show (Lib.trimS s.data.toList [48, 49]).isEmpty = _
  cases Lib.trimS s.data.toList [48, 49] <;> rfl
set_option maxHeartbeats 1000000 in
theorem isPlace_any (a : Int) (n : Nat) (w : World) : Calls Tryz.prog 73 #[.int .i64 a, .int .i64 n] w fun e w' => e = .returned (.bool (place a n)) ∧ w' = w := by
  unfold place
  by_cases h1 : 0 ≤ a
  · by_cases h2 : a < n
    · rw [decide_eq_true h1, decide_eq_true h2]
      go_enter Tryz.func73, Tryz.ntmps73
      go_wp2_with fail
      go_ret
      exact ⟨rfl, rfl⟩
    · rw [decide_eq_true h1, decide_eq_false h2]
      go_enter Tryz.func73, Tryz.ntmps73
      go_wp2_with fail
      go_ret
      exact ⟨rfl, rfl⟩
  · rw [decide_eq_false h1, Bool.false_and]
    go_enter Tryz.func73, Tryz.ntmps73
    go_wp2_with fail
    go_ret
    exact ⟨rfl, rfl⟩
set_option maxHeartbeats 2000000 in
theorem isText_any (x : Inst) (w : World) : Calls Tryz.prog 51 #[.agg (insA x)] w fun e w' => e = .returned (.bool (txtOk x.kind x.text)) ∧ Below w.heap.size w w' := by
  obtain ⟨k, t, a, b⟩ := x
  unfold txtOk
  simp only
  by_cases h1 : k = 1
  · subst h1
    rw [if_pos rfl]
    by_cases hz : t.size = 1
    · rw [decide_eq_true hz]
      have tz : ((t.size : Int) == 1) = true := by simp [hz]
      clear hz
      go_enter Tryz.func51, Tryz.ntmps51
      go_wp2_with (first
        | (refine box_ins (r := ⟨1, t, a, b⟩) rfl (.tmp 0) rfl rfl ?_; intro w1 b1 e1 p1 l1 z1; have c0 := p1.c0; have c1 := p1.c1; have L1 := Lib.hid l1; clear e1 p1 l1 z1; simp only at c0 c1))
      go_ret
      exact ⟨rfl, L1.out⟩
    · rw [decide_eq_false hz]
      have tz : ((t.size : Int) == 1) = false := by simp; omega
      clear hz
      go_enter Tryz.func51, Tryz.ntmps51
      go_wp2_with (first
        | (refine box_ins (r := ⟨1, t, a, b⟩) rfl (.tmp 0) rfl rfl ?_; intro w1 b1 e1 p1 l1 z1; have c0 := p1.c0; have c1 := p1.c1; have L1 := Lib.hid l1; clear e1 p1 l1 z1; simp only at c0 c1))
      go_ret
      exact ⟨rfl, L1.out⟩
  · rw [if_neg h1]
    have t1 : (k == 1) = false := by simpa using h1
    by_cases h3 : k = 3
    · subst h3
      rw [if_pos rfl]
      by_cases hz : t.size = 256
      · rw [good_is t hz]
        have tz : ((t.size : Int) == 256) = true := by simp [hz]
        have HT := Lib.hid (fun w => trim01_any t (by omega) w)
        clear hz
        generalize t.data.toList.all zero1 = g at *
        go_enter Tryz.func51, Tryz.ntmps51
        go_wp2_with (first
          | (refine box_ins (r := ⟨3, t, a, b⟩) rfl (.tmp 0) rfl rfl ?_; intro w1 b1 e1 p1 l1 z1; have c0 := p1.c0; have c1 := p1.c1; have L1 := Lib.hid l1; clear e1 p1 l1 z1; simp only at c0 c1))
        refine (HT.out _).mono ?_
        rintro e w2 ⟨d, rfl, hd, l2⟩
        have L2 := Lib.hid (on L1.out l2)
        clear l2
        go_wp2_with fail
        go_ret
        exact ⟨rfl, L2.out⟩
      · rw [good_not t hz]
        have tz : ((t.size : Int) == 256) = false := by simp; omega
        clear hz
        go_enter Tryz.func51, Tryz.ntmps51
        go_wp2_with (first
          | (refine box_ins (r := ⟨3, t, a, b⟩) rfl (.tmp 0) rfl rfl ?_; intro w1 b1 e1 p1 l1 z1; have c0 := p1.c0; have c1 := p1.c1; have L1 := Lib.hid l1; clear e1 p1 l1 z1; simp only at c0 c1))
        go_ret
        exact ⟨rfl, L1.out⟩
    · rw [if_neg h3]
      have t3 : (k == 3) = false := by simpa using h3
      clear h1 h3
      by_cases hz : t.size = 0
      · rw [decide_eq_true hz]
        have te := Kit.list_none (s := t) (by omega)
        clear hz
        go_enter Tryz.func51, Tryz.ntmps51
        go_wp2_with (first
          | (refine box_ins (r := ⟨k, t, a, b⟩) rfl (.tmp 0) rfl rfl ?_; intro w1 b1 e1 p1 l1 z1; have c0 := p1.c0; have c1 := p1.c1; have L1 := Lib.hid l1; clear e1 p1 l1 z1; simp only at c0 c1))
        go_ret
        exact ⟨rfl, L1.out⟩
      · rw [decide_eq_false hz]
        have te := Kit.list_full (s := t) (by omega)
        clear hz
        go_enter Tryz.func51, Tryz.ntmps51
        go_wp2_with (first
          | (refine box_ins (r := ⟨k, t, a, b⟩) rfl (.tmp 0) rfl rfl ?_; intro w1 b1 e1 p1 l1 z1; have c0 := p1.c0; have c1 := p1.c1; have L1 := Lib.hid l1; clear e1 p1 l1 z1; simp only at c0 c1))
        go_ret
        exact ⟨rfl, L1.out⟩
end Go.Proofs.YtehdnbidgphecaaGreatDoor.W15
/-
  Layer 16 (match), plain mathematics: which steps a program comes to at which place of a text; the rows of marks that the landed code makes, place by place; what the ends that it tells are. No condition but those that each theorem bears.
-/
namespace Go.Proofs.YtehdnbidgphecaaGreatDoor.M16
open Go Go.Proofs.YtehdnbidgphecaaGreatDoor.M15
open Go.Proofs.YtehdnbidgphecaaGreatDoor.M13 (has)

abbrev Text := List UInt8
/-- a step, and the place at which it was begun -/
abbrev Mark := Nat × Nat
def ins (L : List Inst) (i : Nat) : Inst := L.getD i ⟨0, no, 0, 0⟩
/-- where a step goes on without a byte, at place q of a text of n bytes -/
def eps (x : Inst) (n q : Nat) : List Nat :=
  if x.kind = 6 then [x.x.toNat, x.y.toNat] else if x.kind = 8 then [x.x.toNat] else if x.kind = 4 then (if q = 0 then [x.x.toNat] else []) else if x.kind = 5 then (if q = n then [x.x.toNat] else []) else []
/-- does a step go on behind a byte? -/
def takes (x : Inst) (c : UInt8) : Bool :=
  if x.kind = 1 then decide (x.text.data.toList.head? = some c) else if x.kind = 2 then decide (c ≠ 10) else if x.kind = 3 then has x.text.data.toList c.toNat else false
/-- begun at b, the program comes to step i at place q -/
inductive Reach (L : List Inst) (s : Text) (b : Nat) : Nat → Nat → Prop where
  | start : Reach L s b 0 b
  | on {i q j : Nat} : Reach L s b i q → j ∈ eps (ins L i) s.length q → Reach L s b j q
  | byte {i q : Nat} {c : UInt8} : Reach L s b i q → s[q]? = some c → takes (ins L i) c = true → Reach L s b (ins L i).x.toNat (q + 1)
def EndsAt (L : List Inst) (s : Text) (b q : Nat) : Prop := ∃ i, (ins L i).kind = 7 ∧ Reach L s b i q
/-- without a byte, at place q -/
inductive ER (L : List Inst) (n q : Nat) : Nat → Nat → Prop where
  | refl (i : Nat) : ER L n q i i
  | step {i j k : Nat} : ER L n q i j → k ∈ eps (ins L j) n q → ER L n q i k
/-- a program whose steps lead to steps -/
structure Fair (L : List Inst) : Prop where
  some_ : 0 < L.length
  eps_ : ∀ i n q j, j ∈ eps (ins L i) n q → j < L.length
  byte_ : ∀ i c, takes (ins L i) c = true → (ins L i).x.toNat < L.length
section
variable {L : List Inst} {s : Text} {b i j q n t : Nat}
theorem Reach.er (h : Reach L s b i q) (e : ER L s.length q i j) : Reach L s b j q := by
  induction e with
  | refl => exact h
  | step _ hk ih => exact ih.on hk
theorem Reach.le (h : Reach L s b i q) : b ≤ q := by
  induction h with
  | start => exact Nat.le_refl _
  | on _ _ ih => exact ih
  | byte _ _ _ ih => omega
theorem Reach.in_ (h : Reach L s b i q) (hb : b ≤ s.length) : q ≤ s.length := by
  induction h with
  | start => exact hb
  | on _ _ ih => exact ih
  | byte _ hc _ _ =>
    have := (List.getElem?_eq_some_iff.1 hc).1
    omega
theorem Reach.cases (h : Reach L s b j q) : (q = b ∧ ER L s.length q 0 j) ∨ ∃ q0 i c, q = q0 + 1 ∧ Reach L s b i q0 ∧ s[q0]? = some c ∧ takes (ins L i) c = true ∧ ER L s.length q (ins L i).x.toNat j := by
  induction h with
  | start => exact Or.inl ⟨rfl, .refl _⟩
  | on _ hk ih =>
    rcases ih with ⟨rfl, e⟩ | ⟨q0, i, c, rfl, h1, h2, h3, h4⟩
    · exact Or.inl ⟨rfl, e.step hk⟩
    · exact Or.inr ⟨q0, i, c, rfl, h1, h2, h3, h4.step hk⟩
  | byte h hc ht _ => exact Or.inr ⟨_, _, _, rfl, h, hc, ht, .refl _⟩
theorem Reach.mid (h : Reach L s b i t) : ∀ q, b ≤ q → q ≤ t → ∃ j, Reach L s b j q := by
  induction h with
  | start => intro q h1 h2; have : q = b := by omega
             subst this; exact ⟨_, .start⟩
  | on _ _ ih => exact ih
  | byte h hc ht ih =>
    intro q' h1 h2
    rcases Nat.lt_or_ge q' _ with hlt | hge
    · exact ih q' h1 (Nat.le_of_lt_succ hlt)
    · have := Nat.le_antisymm h2 hge
      subst this
      exact ⟨_, h.byte hc ht⟩
end
/-! marks -/
def steps (M : List Mark) : List Nat := M.map Prod.fst
def put (M : List Mark) (m : Mark) : List Mark := if M.any (fun x => x.1 == m.1) then M else M ++ [m]
def puts (M : List Mark) (l : List Nat) (b : Nat) : List Mark := l.foldl (fun M j => put M (j, b)) M
def go (L : List Inst) (n q b : Nat) : Nat → Nat → List Mark → List Mark
  | 0, _, M => M
  | f + 1, i, M => match M[i]? with
    | none => M
    | some m => go L n q b f (i + 1) (puts M (eps (ins L m.1) n q) b)
def goOn (L : List Inst) (n q : Nat) (M : List Mark) (m : Mark) : List Mark := go L n q m.2 L.length M.length (put M m)
section
variable {L : List Inst} {M : List Mark} {m : Mark} {n q b i j : Nat}
theorem any_steps : M.any (fun x => x.1 == m.1) = true ↔ m.1 ∈ steps M := by
  unfold steps
  simp
theorem put_old (h : m.1 ∈ steps M) : put M m = M := by unfold put; rw [if_pos (any_steps.2 h)]
theorem put_new (h : m.1 ∉ steps M) : put M m = M ++ [m] := by unfold put; rw [if_neg (fun e => h (any_steps.1 e))]
theorem put_pre (M : List Mark) (m : Mark) : M <+: put M m := by
  unfold put
  split
  · exact List.prefix_refl _
  · exact List.prefix_append _ _
theorem put_has (M : List Mark) (m : Mark) : m.1 ∈ steps (put M m) := by
  by_cases h : m.1 ∈ steps M
  · rw [put_old h]; exact h
  · rw [put_new h]; unfold steps; simp
theorem put_mem {x : Mark} (h : x ∈ put M m) : x ∈ M ∨ x = m := by
  by_cases c : m.1 ∈ steps M
  · rw [put_old c] at h; exact Or.inl h
  · rw [put_new c] at h; simpa using h
theorem put_nodup (h : (steps M).Nodup) : (steps (put M m)).Nodup := by
  by_cases c : m.1 ∈ steps M
  · rw [put_old c]; exact h
  · rw [put_new c]
    unfold steps at *
    rw [List.map_append, List.nodup_append]
    refine ⟨h, by simp, ?_⟩
    intro a ha b hb e
    simp at hb
    subst hb e
    exact c ha
theorem steps_pre {M M' : List Mark} (h : M <+: M') (hj : j ∈ steps M) : j ∈ steps M' := by
  unfold steps at *
  obtain ⟨x, hx, rfl⟩ := List.mem_map.1 hj
  exact List.mem_map.2 ⟨x, h.subset hx, rfl⟩
theorem puts_pre (l : List Nat) (b : Nat) : ∀ M : List Mark, M <+: puts M l b := by
  unfold puts
  induction l with
  | nil => intro M; exact List.prefix_refl _
  | cons x l ih => intro M; exact (put_pre M (x, b)).trans (ih _)
theorem puts_has {l : List Nat} {b : Nat} : ∀ {M : List Mark}, j ∈ l → j ∈ steps (puts M l b) := by
  unfold puts
  induction l with
  | nil => intro M h; simp at h
  | cons x l ih =>
    intro M h
    rcases List.mem_cons.1 h with rfl | h
    · exact steps_pre (puts_pre l b _) (put_has M (j, b))
    · exact ih h
theorem puts_mem {l : List Nat} {b : Nat} {x : Mark} : ∀ {M : List Mark}, x ∈ puts M l b → x ∈ M ∨ (x.1 ∈ l ∧ x.2 = b) := by
  unfold puts
  induction l with
  | nil => intro M h; exact Or.inl h
  | cons y l ih =>
    intro M h
    rcases ih h with h | ⟨h1, h2⟩
    · rcases put_mem h with h | rfl
      · exact Or.inl h
      · exact Or.inr ⟨by simp, rfl⟩
    · exact Or.inr ⟨by simp [h1], h2⟩
theorem puts_nodup {l : List Nat} {b : Nat} : ∀ {M : List Mark}, (steps M).Nodup → (steps (puts M l b)).Nodup := by
  unfold puts
  induction l with
  | nil => intro M h; exact h
  | cons y l ih => intro M h; exact ih (put_nodup h)
theorem nodup_le : ∀ (n : Nat) {l : List Nat}, l.Nodup → (∀ x ∈ l, x < n) → l.length ≤ n
  | 0, [], _, _ => Nat.le_refl _
  | 0, x :: l, _, h => absurd (h x (by simp)) (by omega)
  | n + 1, l, hn, h => by
    by_cases c : n ∈ l
    · have h1 := nodup_le n (l := l.erase n) (hn.erase n) (fun x hx => by
        have h2 := h x (List.mem_of_mem_erase hx)
        have h3 : x ≠ n := fun e => by subst e; exact (List.Nodup.not_mem_erase hn) hx
        omega)
      rw [List.length_erase_of_mem c] at h1
      have := List.length_pos_of_mem c
      omega
    · have h1 := nodup_le n hn (fun x hx => by
        have h2 := h x hx
        have h3 : x ≠ n := fun e => by subst e; exact c hx
        omega)
      omega
/-- a row of marks as it comes to be -/
structure Row (L : List Inst) (n q : Nat) (M : List Mark) : Prop where
  nodup : (steps M).Nodup
  low : ∀ x ∈ M, x.1 < L.length
  shut : ∀ x ∈ M, ∀ j ∈ eps (ins L x.1) n q, j ∈ steps M
  rise : M.Pairwise fun x y => x.2 ≤ y.2
theorem Row.nil (L : List Inst) (n q : Nat) : Row L n q [] := ⟨by simp [steps], by simp, by simp, .nil⟩
theorem Row.len (h : Row L n q M) : M.length ≤ L.length := by
  have := nodup_le L.length h.nodup (fun x hx => by
    obtain ⟨y, hy, rfl⟩ := List.mem_map.1 hx
    exact h.low y hy)
  simpa [steps] using this
/-- what going on has come to -/
structure Going (L : List Inst) (n q b i0 : Nat) (M0 : List Mark) (i : Nat) (M : List Mark) : Prop where
  pre : M0 <+: M
  nodup : (steps M).Nodup
  low : ∀ x ∈ M, x.1 < L.length
  from_ : ∀ x ∈ M, x ∈ M0 ∨ (x.2 = b ∧ ER L n q i0 x.1)
  shut : ∀ k x, k < i → M[k]? = some x → ∀ j ∈ eps (ins L x.1) n q, j ∈ steps M
  has : i0 ∈ steps M
theorem Going.next {i0 : Nat} {M0 : List Mark} {x : Mark} (hf : Fair L) (h : Going L n q b i0 M0 i M) (hM : M0.length ≤ i) (h0 : ∀ y ∈ M0, ∀ j ∈ eps (ins L y.1) n q, j ∈ steps M) (hx : M[i]? = some x) : Going L n q b i0 M0 (i + 1) (puts M (eps (ins L x.1) n q) b) := by
  have hpre := puts_pre (eps (ins L x.1) n q) b M
  refine ⟨h.pre.trans hpre, puts_nodup h.nodup, fun y hy => ?_, fun y hy => ?_, fun k y hk hy j hj => ?_, steps_pre hpre h.has⟩
  · rcases puts_mem hy with h1 | ⟨h1, -⟩
    · exact h.low y h1
    · exact hf.eps_ _ _ _ _ h1
  · rcases puts_mem hy with h1 | ⟨h1, h2⟩
    · exact h.from_ y h1
    · have hxm := List.mem_of_getElem? hx
      rcases h.from_ x hxm with h3 | ⟨h3, h4⟩
      · have h5 := h0 x h3 _ h1
        obtain ⟨z, hz, e⟩ := List.mem_map.1 h5
        -- x's step was there before: its own kids are marked already
        have h6 : y ∈ M := by
          have hnd := puts_nodup (l := eps (ins L x.1) n q) (b := b) h.nodup
          have hzp := hpre.subset hz
          have : z = y := by
            have hi := List.pairwise_map.1 hnd
            by_cases hzy : z = y
            · exact hzy
            · exfalso
              obtain ⟨k1, hk1, e1⟩ := List.mem_iff_getElem.1 hzp
              obtain ⟨k2, hk2, e2⟩ := List.mem_iff_getElem.1 hy
              have hp := List.pairwise_iff_getElem.1 hi
              rcases Nat.lt_trichotomy k1 k2 with q1 | q1 | q1
              · have := hp k1 k2 hk1 hk2 q1
                rw [e1, e2] at this
                exact this e
              · subst q1; exact hzy (e1.symm.trans e2)
              · have := hp k2 k1 hk2 hk1 q1
                rw [e1, e2] at this
                exact this e.symm
          rw [← this]; exact hz
        exact h.from_ y h6
      · exact Or.inr ⟨h2, h4.step h1⟩
  · have hlt : k < M.length ∨ M.length ≤ k := Nat.lt_or_ge _ _
    have hi := (List.getElem?_eq_some_iff.1 hx).1
    have hky : M[k]? = some y := by
      obtain ⟨r, hr⟩ := hpre
      rw [← hr, List.getElem?_append_left (by omega)] at hy
      exact hy
    by_cases hki : k = i
    · subst hki
      rw [hx] at hky
      cases hky
      exact puts_has hj
    · exact steps_pre hpre (h.shut k y (by omega) hky j hj)
theorem go_going {i0 : Nat} {M0 : List Mark} (hf : Fair L) : ∀ (f : Nat) {i : Nat} {M : List Mark}, Going L n q b i0 M0 i M → M0.length ≤ i → (∀ y ∈ M0, ∀ j ∈ eps (ins L y.1) n q, j ∈ steps M0) → L.length ≤ i + f → ∃ i', Going L n q b i0 M0 i' (go L n q b f i M) ∧ (go L n q b f i M).length ≤ i'
  | 0, i, M, h, _, _, hl => by
    refine ⟨i, h, ?_⟩
    have := nodup_le L.length h.nodup (fun x hx => by
      obtain ⟨y, hy, rfl⟩ := List.mem_map.1 hx
      exact h.low y hy)
    simp [steps] at this
    show M.length ≤ i
    omega
  | f + 1, i, M, h, hM, h0, hl => by
    unfold go
    split
    · rename_i hn
      exact ⟨i, h, List.getElem?_eq_none_iff.1 hn⟩
    · rename_i x hx
      exact go_going hf f (h.next hf hM (fun y hy j hj => steps_pre h.pre (h0 y hy j hj)) hx) (by omega) h0 (by omega)
/-- what going on comes to -/
structure Went (L : List Inst) (n q : Nat) (m : Mark) (M M' : List Mark) : Prop where
  pre : M <+: M'
  row : Row L n q M'
  from_ : ∀ x ∈ M', x ∈ M ∨ (x.2 = m.2 ∧ ER L n q m.1 x.1)
  all : ∀ j, ER L n q m.1 j → ∃ x ∈ M', x.1 = j ∧ x.2 ≤ m.2
theorem goOn_went (hf : Fair L) (h : Row L n q M) (hm : m.1 < L.length) (hb : ∀ x ∈ M, x.2 ≤ m.2) : Went L n q m M (goOn L n q M m) := by
  obtain ⟨i', hg, hi⟩ := go_going (b := m.2) (i0 := m.1) (M0 := M) hf L.length (i := M.length) (M := put M m) ⟨put_pre M m, put_nodup h.nodup, fun x hx => by
      rcases put_mem hx with h1 | rfl
      · exact h.low x h1
      · exact hm, fun x hx => by
      rcases put_mem hx with h1 | rfl
      · exact Or.inl h1
      · exact Or.inr ⟨rfl, .refl _⟩, fun k x hk hx j hj => by
      have h1 : M[k]? = some x := by
        obtain ⟨r, hr⟩ := put_pre M m
        rw [← hr, List.getElem?_append_left hk] at hx
        exact hx
      exact steps_pre (put_pre M m) (h.shut x (List.mem_of_getElem? h1) j hj), put_has M m⟩ (Nat.le_refl _) h.shut (by omega)
  change Going L n q m.2 m.1 M i' (goOn L n q M m) at hg
  change (goOn L n q M m).length ≤ i' at hi
  generalize goOn L n q M m = R at *
  have hshut : ∀ x ∈ R, ∀ j ∈ eps (ins L x.1) n q, j ∈ steps R := fun x hx j hj => by
    obtain ⟨k, hk, rfl⟩ := List.mem_iff_getElem.1 hx
    exact hg.shut k _ (by omega) (List.getElem?_eq_getElem hk) j hj
  have hle : ∀ x ∈ R, x.2 ≤ m.2 := fun x hx => by
    rcases hg.from_ x hx with h1 | ⟨h1, -⟩
    · exact hb x h1
    · omega
  have hall : ∀ j, ER L n q m.1 j → j ∈ steps R := fun j he => by
    induction he with
    | refl => exact hg.has
    | step _ hk ih =>
      obtain ⟨x, hx, rfl⟩ := List.mem_map.1 ih
      exact hshut x hx _ hk
  refine ⟨hg.pre, ⟨hg.nodup, hg.low, hshut, ?_⟩, hg.from_, fun j hj => ?_⟩
  · obtain ⟨N, rfl⟩ := hg.pre
    rw [List.pairwise_append]
    have hN : ∀ x ∈ N, x.2 = m.2 ∨ x ∈ M := fun x hx => by
      rcases hg.from_ x (by simp [hx]) with h1 | ⟨h1, -⟩
      · exact Or.inr h1
      · exact Or.inl h1
    have hNd : ∀ x ∈ N, x ∉ M := fun x hx hxM => by
      have := hg.nodup
      unfold steps at this
      rw [List.map_append, List.nodup_append] at this
      exact this.2.2 x.1 (List.mem_map.2 ⟨x, hxM, rfl⟩) x.1 (List.mem_map.2 ⟨x, hx, rfl⟩) rfl
    have hNe : ∀ x ∈ N, x.2 = m.2 := fun x hx => by
      rcases hN x hx with h1 | h1
      · exact h1
      · exact absurd h1 (hNd x hx)
    refine ⟨h.rise, ?_, fun x hx y hy => ?_⟩
    · exact List.Pairwise.imp_of_mem (R := fun _ _ => True) (fun ha hb _ => by rw [hNe _ ha, hNe _ hb]; exact Nat.le_refl _) (List.pairwise_of_forall (fun _ _ => trivial))
    · rw [hNe y hy]; exact hb x hx
  · obtain ⟨x, hx, rfl⟩ := List.mem_map.1 (hall j hj)
    exact ⟨x, hx, rfl, hle x hx⟩
end
end Go.Proofs.YtehdnbidgphecaaGreatDoor.M16
