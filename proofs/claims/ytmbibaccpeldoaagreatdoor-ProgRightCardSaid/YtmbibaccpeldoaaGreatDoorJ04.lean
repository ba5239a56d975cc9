/-
  Texts joined, in build order, each with its own comment and its own conditions: Shelf, W14Times, W15Steps.
-/
import Derived.Shelf.Strings.Trim
import Derived.Shelf.Small.Strs
import Derived.Shelf.Small.Wraps
import Derived.Shelf.Strconv.Atoi
import Derived.Shelf.Strings.Search1
import Derived.Shelf.Strings.Search2
import Derived.Shelf.Strings.Count
import Derived.Shelf.Strings.Prefix
import Derived.Test.YtmbibaccpeldoaaGreatDoorProg
import Derived.Test.YtmbibaccpeldoaaGreatDoorJ03
import Derived.Shelf.Strings.SlTrimAscii
import Derived.Lib.IndexLaws
import Derived.Lib.SmallJoins
/-
  The library's contracts that this seat's proofs use, laid at the seat's translation by the kit's own commands (lay-shelf, lay-plain): each says what one function of Go's library returns, under the conditions that stand in its statement.
-/
namespace Go.Proofs
open Go.Shelf
def Tryz.lays160_ren : Go.Shelf.Ren := ⟨fun | 160 => 39 | 232 => 53 | 231 => 52 | 227 => 54 | 234 => 56 | 233 => 55 | 236 => 58 | 235 => 57 | 228 => 67 | 271 => 70 | 151 => 69 | 197 => 68 | 120 => 80 | 152 => 79 | 260 => 78 | 137 => 88 | 119 => 89 | 224 => 90 | 225 => 91 | 217 => 101 | 266 => 111 | n => n, fun | 9 => 9 | 4 => 4 | 3 => 3 | 5 => 5 | 117 => 75 | 116 => 74 | 0 => 0 | 124 => 78 | 21 => 21 | 105 => 84 | 46 => 100 | 119 => 99 | 139 => 103 | 138 => 102 | n => n, fun | 3 => 0 | 4 => 1 | n => n⟩
theorem Tryz.lays160 : Go.Proofs.Lays.n160 Tryz.prog Tryz.lays160_ren := {
  mixed := by kernel_rfl
  f119 := Tryz.func89.trans (congrArg some (by kernel_rfl))
  f120 := Tryz.func80.trans (congrArg some (by kernel_rfl))
  f137 := Tryz.func88.trans (congrArg some (by kernel_rfl))
  f151 := Tryz.func69.trans (congrArg some (by kernel_rfl))
  f152 := Tryz.func79.trans (congrArg some (by kernel_rfl))
  f160 := Tryz.func39.trans (congrArg some (by kernel_rfl))
  f197 := Tryz.func68.trans (congrArg some (by kernel_rfl))
  f217 := Tryz.func101.trans (congrArg some (by kernel_rfl))
  f224 := Tryz.func90.trans (congrArg some (by kernel_rfl))
  f225 := Tryz.func91.trans (congrArg some (by kernel_rfl))
  f227 := Tryz.func54.trans (congrArg some (by kernel_rfl))
  f228 := Tryz.func67.trans (congrArg some (by kernel_rfl))
  f231 := Tryz.func52.trans (congrArg some (by kernel_rfl))
  f232 := Tryz.func53.trans (congrArg some (by kernel_rfl))
  f233 := Tryz.func55.trans (congrArg some (by kernel_rfl))
  f234 := Tryz.func56.trans (congrArg some (by kernel_rfl))
  f235 := Tryz.func57.trans (congrArg some (by kernel_rfl))
  f236 := Tryz.func58.trans (congrArg some (by kernel_rfl))
  f260 := Tryz.func78.trans (congrArg some (by kernel_rfl))
  f266 := Tryz.func111.trans (congrArg some (by kernel_rfl))
  f271 := Tryz.func70.trans (congrArg some (by kernel_rfl))
  t0 := Tryz.underlying0
  a0 := Tryz.isAgg0
  z0 := Tryz.sizeOf0
  v0 := Tryz.zeroValue0
  t3 := Tryz.underlying3
  a3 := Tryz.isAgg3
  z3 := Tryz.sizeOf3
  v3 := Tryz.zeroValue3
  t4 := Tryz.underlying4
  a4 := Tryz.isAgg4
  z4 := Tryz.sizeOf4
  v4 := Tryz.zeroValue4
  t5 := Tryz.underlying5
  a5 := Tryz.isAgg5
  z5 := Tryz.sizeOf5
  v5 := Tryz.zeroValue5
  t9 := Tryz.underlying9
  a9 := Tryz.isAgg9
  z9 := Tryz.sizeOf9
  v9 := Tryz.zeroValue9
  t21 := Tryz.underlying21
  a21 := Tryz.isAgg21
  z21 := Tryz.sizeOf21
  v21 := Tryz.zeroValue21
  t46 := Tryz.underlying100
  a46 := Tryz.isAgg100
  z46 := Tryz.sizeOf100
  v46 := Tryz.zeroValue100
  t105 := Tryz.underlying84
  a105 := Tryz.isAgg84
  z105 := Tryz.sizeOf84
  v105 := Tryz.zeroValue84
  t116 := Tryz.underlying74
  a116 := Tryz.isAgg74
  z116 := Tryz.sizeOf74
  t117 := Tryz.underlying75
  a117 := Tryz.isAgg75
  z117 := Tryz.sizeOf75
  v117 := Tryz.zeroValue75
  t119 := Tryz.underlying99
  a119 := Tryz.isAgg99
  z119 := Tryz.sizeOf99
  t124 := Tryz.underlying78
  a124 := Tryz.isAgg78
  z124 := Tryz.sizeOf78
  v124 := Tryz.zeroValue78
  t138 := Tryz.underlying102
  a138 := Tryz.isAgg102
  z138 := Tryz.sizeOf102
  v138 := Tryz.zeroValue102
  t139 := Tryz.underlying103
  a139 := Tryz.isAgg103
  z139 := Tryz.sizeOf103
  v139 := Tryz.zeroValue103
  g3 := by kernel_rfl
  g4 := by kernel_rfl }
def Tryz.lays137_ren : Go.Shelf.Ren := ⟨fun | 137 => 88 | 217 => 101 | 266 => 111 | n => n, fun | 9 => 9 | 5 => 5 | 3 => 3 | n => n, fun | n => n⟩
theorem Tryz.lays137 : Go.Proofs.Lays.n137 Tryz.prog Tryz.lays137_ren := {
  mixed := by kernel_rfl
  f137 := Tryz.func88.trans (congrArg some (by kernel_rfl))
  f217 := Tryz.func101.trans (congrArg some (by kernel_rfl))
  f266 := Tryz.func111.trans (congrArg some (by kernel_rfl))
  t3 := Tryz.underlying3
  a3 := Tryz.isAgg3
  z3 := Tryz.sizeOf3
  v3 := Tryz.zeroValue3
  t5 := Tryz.underlying5
  a5 := Tryz.isAgg5
  z5 := Tryz.sizeOf5
  v5 := Tryz.zeroValue5
  t9 := Tryz.underlying9
  a9 := Tryz.isAgg9
  z9 := Tryz.sizeOf9
  v9 := Tryz.zeroValue9 }
open Go.RowKit in
theorem Tryz.strings_IndexByte (s : ByteArray) (c : Int) (w : World) :
    Calls Tryz.prog 88 #[.string s, .int .u8 c] w fun e w' => e = .returned (.int .i64 (Lib.indexByte s.data.toList c.toNat.toUInt8)) ∧ w' = w := Any.strings_IndexByte Tryz.lays137 s c w
def Tryz.lays103_ren : Go.Shelf.Ren := ⟨fun | 103 => 112 | 210 => 121 | 206 => 73 | n => n, fun | 9 => 9 | 4 => 4 | 24 => 110 | 3 => 3 | n => n, fun | n => n⟩
theorem Tryz.lays103 : Go.Proofs.Lays.n103 Tryz.prog Tryz.lays103_ren := {
  mixed := by kernel_rfl
  f103 := Tryz.func112.trans (congrArg some (by kernel_rfl))
  f206 := Tryz.func73.trans (congrArg some (by kernel_rfl))
  f210 := Tryz.func121.trans (congrArg some (by kernel_rfl))
  t3 := Tryz.underlying3
  a3 := Tryz.isAgg3
  z3 := Tryz.sizeOf3
  v3 := Tryz.zeroValue3
  t4 := Tryz.underlying4
  a4 := Tryz.isAgg4
  z4 := Tryz.sizeOf4
  v4 := Tryz.zeroValue4
  t9 := Tryz.underlying9
  a9 := Tryz.isAgg9
  z9 := Tryz.sizeOf9
  v9 := Tryz.zeroValue9
  t24 := Tryz.underlying110
  a24 := Tryz.isAgg110
  z24 := Tryz.sizeOf110
  v24 := Tryz.zeroValue110 }
open Go.RowKit in
theorem Tryz.strings_CutPrefix (s p : ByteArray) (w : World) :
    Calls Tryz.prog 112 #[.string s, .string p] w fun e w' => e = .returned (.tuple #[.string ⟨(Lib.trimPrefix s.data.toList p.data.toList).toArray⟩, .bool (Lib.hasPrefix s.data.toList p.data.toList)]) ∧ w' = w := Any.strings_CutPrefix Tryz.lays103 s p w
def Tryz.lays172_ren : Go.Shelf.Ren := ⟨fun | 172 => 117 | 244 => 125 | 245 => 126 | 247 => 131 | 279 => 132 | 280 => 133 | 281 => 134 | 282 => 135 | 287 => 137 | 316 => 138 | 171 => 140 | 205 => 139 | 321 => 141 | 322 => 142 | 243 => 143 | 246 => 144 | 283 => 145 | 284 => 146 | 285 => 147 | 286 => 148 | 129 => 150 | 317 => 149 | 318 => 151 | 319 => 152 | 320 => 153 | 337 => 154 | 338 => 155 | n => n, fun | 9 => 9 | 3 => 3 | 75 => 128 | 76 => 129 | 4 => 4 | 5 => 5 | 167 => 139 | 37 => 114 | 0 => 0 | 85 => 140 | 2 => 2 | 168 => 142 | 53 => 148 | 175 => 149 | 46 => 100 | 210 => 152 | 127 => 156 | 145 => 159 | 143 => 157 | 21 => 21 | 171 => 161 | 173 => 164 | 212 => 167 | 51 => 145 | 20 => 20 | 213 => 168 | 232 => 172 | 233 => 173 | 80 => 98 | n => n, fun | 15 => 3 | 16 => 4 | 17 => 5 | 18 => 6 | 19 => 7 | n => n⟩
theorem Tryz.lays172 : Go.Proofs.Lays.n172 Tryz.prog Tryz.lays172_ren := {
  mixed := by kernel_rfl
  f129 := Tryz.func150.trans (congrArg some (by kernel_rfl))
  f171 := Tryz.func140.trans (congrArg some (by kernel_rfl))
  f172 := Tryz.func117.trans (congrArg some (by kernel_rfl))
  f205 := Tryz.func139.trans (congrArg some (by kernel_rfl))
  f243 := Tryz.func143.trans (congrArg some (by kernel_rfl))
  f244 := Tryz.func125.trans (congrArg some (by kernel_rfl))
  f245 := Tryz.func126.trans (congrArg some (by kernel_rfl))
  f246 := Tryz.func144.trans (congrArg some (by kernel_rfl))
  f247 := Tryz.func131.trans (congrArg some (by kernel_rfl))
  f279 := Tryz.func132.trans (congrArg some (by kernel_rfl))
  f280 := Tryz.func133.trans (congrArg some (by kernel_rfl))
  f281 := Tryz.func134.trans (congrArg some (by kernel_rfl))
  f282 := Tryz.func135.trans (congrArg some (by kernel_rfl))
  f283 := Tryz.func145.trans (congrArg some (by kernel_rfl))
  f284 := Tryz.func146.trans (congrArg some (by kernel_rfl))
  f285 := Tryz.func147.trans (congrArg some (by kernel_rfl))
  f286 := Tryz.func148.trans (congrArg some (by kernel_rfl))
  f287 := Tryz.func137.trans (congrArg some (by kernel_rfl))
  f316 := Tryz.func138.trans (congrArg some (by kernel_rfl))
  f317 := Tryz.func149.trans (congrArg some (by kernel_rfl))
  f318 := Tryz.func151.trans (congrArg some (by kernel_rfl))
  f319 := Tryz.func152.trans (congrArg some (by kernel_rfl))
  f320 := Tryz.func153.trans (congrArg some (by kernel_rfl))
  f321 := Tryz.func141.trans (congrArg some (by kernel_rfl))
  f322 := Tryz.func142.trans (congrArg some (by kernel_rfl))
  f337 := Tryz.func154.trans (congrArg some (by kernel_rfl))
  f338 := Tryz.func155.trans (congrArg some (by kernel_rfl))
  t0 := Tryz.underlying0
  a0 := Tryz.isAgg0
  z0 := Tryz.sizeOf0
  v0 := Tryz.zeroValue0
  t2 := Tryz.underlying2
  a2 := Tryz.isAgg2
  z2 := Tryz.sizeOf2
  v2 := Tryz.zeroValue2
  t3 := Tryz.underlying3
  a3 := Tryz.isAgg3
  z3 := Tryz.sizeOf3
  v3 := Tryz.zeroValue3
  t4 := Tryz.underlying4
  a4 := Tryz.isAgg4
  z4 := Tryz.sizeOf4
  v4 := Tryz.zeroValue4
  t5 := Tryz.underlying5
  a5 := Tryz.isAgg5
  z5 := Tryz.sizeOf5
  v5 := Tryz.zeroValue5
  t9 := Tryz.underlying9
  a9 := Tryz.isAgg9
  z9 := Tryz.sizeOf9
  v9 := Tryz.zeroValue9
  t20 := Tryz.underlying20
  a20 := Tryz.isAgg20
  z20 := Tryz.sizeOf20
  v20 := Tryz.zeroValue20
  t21 := Tryz.underlying21
  a21 := Tryz.isAgg21
  z21 := Tryz.sizeOf21
  v21 := Tryz.zeroValue21
  t37 := Tryz.underlying114
  a37 := Tryz.isAgg114
  z37 := Tryz.sizeOf114
  v37 := Tryz.zeroValue114
  t46 := Tryz.underlying100
  a46 := Tryz.isAgg100
  z46 := Tryz.sizeOf100
  v46 := Tryz.zeroValue100
  t51 := Tryz.underlying145
  a51 := Tryz.isAgg145
  z51 := Tryz.sizeOf145
  v51 := Tryz.zeroValue145
  t53 := Tryz.underlying148
  a53 := Tryz.isAgg148
  z53 := Tryz.sizeOf148
  v53 := Tryz.zeroValue148
  t75 := Tryz.underlying128
  a75 := Tryz.isAgg128
  z75 := Tryz.sizeOf128
  v75 := Tryz.zeroValue128
  t76 := Tryz.underlying129
  a76 := Tryz.isAgg129
  z76 := Tryz.sizeOf129
  v76 := Tryz.zeroValue129
  t85 := Tryz.underlying140
  a85 := Tryz.isAgg140
  z85 := Tryz.sizeOf140
  v85 := Tryz.zeroValue140
  t127 := Tryz.underlying156
  a127 := Tryz.isAgg156
  z127 := Tryz.sizeOf156
  v127 := Tryz.zeroValue156
  t143 := Tryz.underlying157
  a143 := Tryz.isAgg157
  z143 := Tryz.sizeOf157
  v143 := Tryz.zeroValue157
  t145 := Tryz.underlying159
  a145 := Tryz.isAgg159
  z145 := Tryz.sizeOf159
  v145 := Tryz.zeroValue159
  t167 := Tryz.underlying139
  a167 := Tryz.isAgg139
  z167 := Tryz.sizeOf139
  v167 := Tryz.zeroValue139
  t168 := Tryz.underlying142
  a168 := Tryz.isAgg142
  z168 := Tryz.sizeOf142
  v168 := Tryz.zeroValue142
  t171 := Tryz.underlying161
  a171 := Tryz.isAgg161
  z171 := Tryz.sizeOf161
  v171 := Tryz.zeroValue161
  t173 := Tryz.underlying164
  a173 := Tryz.isAgg164
  z173 := Tryz.sizeOf164
  v173 := Tryz.zeroValue164
  t175 := Tryz.underlying149
  a175 := Tryz.isAgg149
  z175 := Tryz.sizeOf149
  v175 := Tryz.zeroValue149
  t210 := Tryz.underlying152
  a210 := Tryz.isAgg152
  z210 := Tryz.sizeOf152
  v210 := Tryz.zeroValue152
  t212 := Tryz.underlying167
  a212 := Tryz.isAgg167
  z212 := Tryz.sizeOf167
  v212 := Tryz.zeroValue167
  t213 := Tryz.underlying168
  a213 := Tryz.isAgg168
  z213 := Tryz.sizeOf168
  t232 := Tryz.underlying172
  a232 := Tryz.isAgg172
  z232 := Tryz.sizeOf172
  v232 := Tryz.zeroValue172
  t233 := Tryz.underlying173
  a233 := Tryz.isAgg173
  z233 := Tryz.sizeOf173
  v233 := Tryz.zeroValue173
  g15 := by kernel_rfl
  g16 := by kernel_rfl
  g17 := by kernel_rfl
  g18 := by kernel_rfl
  g19 := by kernel_rfl }
open Go.RowKit in
theorem Tryz.strconv_Atoi (s : ByteArray) (n : Int) (hl : s.size ≤ 18) (h : Lib.atoi s.data.toList = some n) (w : World) :
    Calls Tryz.prog 117 #[.string s] w fun e w' => e = .returned (.tuple #[.int .i64 n, .nilIface]) ∧ ∃ t, w' = Lib.bytesWorld w 5 t := Any.strconv_Atoi Tryz.lays172 s n hl h w
def Tryz.lays219_ren : Go.Shelf.Ren := ⟨fun | 219 => 124 | 217 => 101 | 225 => 91 | 224 => 90 | 267 => 130 | 266 => 111 | 314 => 136 | n => n, fun | 9 => 9 | 3 => 3 | 4 => 4 | 5 => 5 | 46 => 100 | 146 => 146 | 51 => 145 | n => n, fun | 1 => 2 | n => n⟩
theorem Tryz.lays219 : Go.Proofs.Lays.n219 Tryz.prog Tryz.lays219_ren := {
  mixed := by kernel_rfl
  f217 := Tryz.func101.trans (congrArg some (by kernel_rfl))
  f219 := Tryz.func124.trans (congrArg some (by kernel_rfl))
  f224 := Tryz.func90.trans (congrArg some (by kernel_rfl))
  f225 := Tryz.func91.trans (congrArg some (by kernel_rfl))
  f266 := Tryz.func111.trans (congrArg some (by kernel_rfl))
  f267 := Tryz.func130.trans (congrArg some (by kernel_rfl))
  f314 := Tryz.func136.trans (congrArg some (by kernel_rfl))
  t3 := Tryz.underlying3
  a3 := Tryz.isAgg3
  z3 := Tryz.sizeOf3
  v3 := Tryz.zeroValue3
  t4 := Tryz.underlying4
  a4 := Tryz.isAgg4
  z4 := Tryz.sizeOf4
  v4 := Tryz.zeroValue4
  t5 := Tryz.underlying5
  a5 := Tryz.isAgg5
  z5 := Tryz.sizeOf5
  v5 := Tryz.zeroValue5
  t9 := Tryz.underlying9
  a9 := Tryz.isAgg9
  z9 := Tryz.sizeOf9
  v9 := Tryz.zeroValue9
  t46 := Tryz.underlying100
  a46 := Tryz.isAgg100
  z46 := Tryz.sizeOf100
  v46 := Tryz.zeroValue100
  t51 := Tryz.underlying145
  a51 := Tryz.isAgg145
  z51 := Tryz.sizeOf145
  v51 := Tryz.zeroValue145
  t146 := Tryz.underlying146
  a146 := Tryz.isAgg146
  z146 := Tryz.sizeOf146
  v146 := Tryz.zeroValue146
  g1 := by kernel_rfl }
open Go.RowKit Go.Lib in
theorem Tryz.stringslite_Index_one (s : ByteArray) (c : UInt8) (w : World) :
    Calls Tryz.prog 124 #[.string s, .string ⟨#[c]⟩] w fun e w' => e = .returned (.int .i64 (Lib.indexByte s.data.toList c)) ∧ w' = w := Any.stringslite_Index_one Tryz.lays219 s c w
def Tryz.lays138_ren : Go.Shelf.Ren := ⟨fun | 138 => 110 | 195 => 118 | 218 => 119 | 143 => 120 | 219 => 124 | 217 => 101 | 225 => 91 | 224 => 90 | 267 => 130 | 266 => 111 | 314 => 136 | n => n, fun | 9 => 9 | 3 => 3 | 4 => 4 | 5 => 5 | 0 => 0 | 46 => 100 | 146 => 146 | 51 => 145 | n => n, fun | 1 => 2 | n => n⟩
theorem Tryz.lays138 : Go.Proofs.Lays.n138 Tryz.prog Tryz.lays138_ren := {
  mixed := by kernel_rfl
  f138 := Tryz.func110.trans (congrArg some (by kernel_rfl))
  f143 := Tryz.func120.trans (congrArg some (by kernel_rfl))
  f195 := Tryz.func118.trans (congrArg some (by kernel_rfl))
  f217 := Tryz.func101.trans (congrArg some (by kernel_rfl))
  f218 := Tryz.func119.trans (congrArg some (by kernel_rfl))
  f219 := Tryz.func124.trans (congrArg some (by kernel_rfl))
  f224 := Tryz.func90.trans (congrArg some (by kernel_rfl))
  f225 := Tryz.func91.trans (congrArg some (by kernel_rfl))
  f266 := Tryz.func111.trans (congrArg some (by kernel_rfl))
  f267 := Tryz.func130.trans (congrArg some (by kernel_rfl))
  f314 := Tryz.func136.trans (congrArg some (by kernel_rfl))
  t0 := Tryz.underlying0
  a0 := Tryz.isAgg0
  z0 := Tryz.sizeOf0
  v0 := Tryz.zeroValue0
  t3 := Tryz.underlying3
  a3 := Tryz.isAgg3
  z3 := Tryz.sizeOf3
  v3 := Tryz.zeroValue3
  t4 := Tryz.underlying4
  a4 := Tryz.isAgg4
  z4 := Tryz.sizeOf4
  v4 := Tryz.zeroValue4
  t5 := Tryz.underlying5
  a5 := Tryz.isAgg5
  z5 := Tryz.sizeOf5
  v5 := Tryz.zeroValue5
  t9 := Tryz.underlying9
  a9 := Tryz.isAgg9
  z9 := Tryz.sizeOf9
  v9 := Tryz.zeroValue9
  t46 := Tryz.underlying100
  a46 := Tryz.isAgg100
  z46 := Tryz.sizeOf100
  v46 := Tryz.zeroValue100
  t51 := Tryz.underlying145
  a51 := Tryz.isAgg145
  z51 := Tryz.sizeOf145
  v51 := Tryz.zeroValue145
  t146 := Tryz.underlying146
  a146 := Tryz.isAgg146
  z146 := Tryz.sizeOf146
  v146 := Tryz.zeroValue146
  g1 := by kernel_rfl }
open Go.RowKit Go.Lib in
theorem Tryz.strings_Count_one (s : ByteArray) (c : UInt8) (w : World) :
    Calls Tryz.prog 110 #[.string s, .string ⟨#[c]⟩] w fun e w' => e = .returned (.int .i64 (Lib.countByte s.data.toList c)) ∧ w' = w := Any.strings_Count_one Tryz.lays138 s c w
def Tryz.lays99_ren : Go.Shelf.Ren := ⟨fun | 99 => 60 | 206 => 73 | n => n, fun | 9 => 9 | 4 => 4 | 3 => 3 | n => n, fun | n => n⟩
theorem Tryz.lays99 : Go.Proofs.Lays.n99 Tryz.prog Tryz.lays99_ren := {
  mixed := by kernel_rfl
  f99 := Tryz.func60.trans (congrArg some (by kernel_rfl))
  f206 := Tryz.func73.trans (congrArg some (by kernel_rfl))
  t3 := Tryz.underlying3
  a3 := Tryz.isAgg3
  z3 := Tryz.sizeOf3
  v3 := Tryz.zeroValue3
  t4 := Tryz.underlying4
  a4 := Tryz.isAgg4
  z4 := Tryz.sizeOf4
  v4 := Tryz.zeroValue4
  t9 := Tryz.underlying9
  a9 := Tryz.isAgg9
  z9 := Tryz.sizeOf9
  v9 := Tryz.zeroValue9 }
open Go.RowKit Go.Lib in
theorem Tryz.strings_HasPrefix (s p : ByteArray) (w : World) :
    Calls Tryz.prog 60 #[.string s, .string p] w fun e w' => e = .returned (.bool (Lib.hasPrefix s.data.toList p.data.toList)) ∧ w' = w := Any.strings_HasPrefix Tryz.lays99 s p w
end Go.Proofs
/-
  Layer 14 (pattern), walks of strings.Cut at one byte and of the program's isNumber, value, mayBe. The conditions stand in the statements.
-/
namespace Go.Proofs.YtmbibaccpeldoaaGreatDoor.W14
set_option maxRecDepth 100000
open Go Go.RowKit Go.Proofs.YtmbibaccpeldoaaGreatDoor.M14
open Go.Proofs.YtmbibaccpeldoaaGreatDoor.Row256 (Beside)
open Go.Proofs.YtmbibaccpeldoaaGreatDoor.Kit (ret_str ret_bool ret_int mk_of mk_bytes ba_ext below_draws on list_full list_ne list_none list_nil)

theorem index_here {l : List UInt8} {c : UInt8} (h : c ∈ l) : Lib.indexByte l c = ((before c l).length : Int) := by
  induction l with
  | nil => simp at h
  | cons d l ih =>
    unfold Lib.indexByte
    by_cases e : d = c
    · subst e; rw [before_here]; simp
    · have hl : c ∈ l := by
        rcases List.mem_cons.1 h with q | q
        · exact absurd q.symm e
        · exact q
      rw [if_neg (by simpa using e), ih hl, before_skip e, if_neg (by simp)]
      simp
theorem index_none {l : List UInt8} {c : UInt8} (h : ¬ c ∈ l) : Lib.indexByte l c = -1 := by
  induction l with
  | nil => rfl
  | cons d l ih =>
    unfold Lib.indexByte
    have e : ¬ d = c := fun e => h (by simp [e])
    rw [if_neg (by simpa using e), ih (fun q => h (by simp [q]))]
    rfl
theorem before_take {l : List UInt8} {c : UInt8} : l.take (before c l).length = before c l := by
  induction l with
  | nil => rfl
  | cons d l ih =>
    by_cases e : d = c
    · subst e; rw [before_here]; rfl
    · rw [before_skip e]; simp [ih]
theorem before_drop {l : List UInt8} {c : UInt8} : l.drop ((before c l).length + 1) = behind c l := by
  induction l with
  | nil => rfl
  | cons d l ih =>
    by_cases e : d = c
    · subst e; rw [before_here, behind_here]; rfl
    · rw [before_skip e]
      have : behind c (d :: l) = behind c l := by unfold behind; simp [e]
      rw [this, ← ih]; simp
theorem before_less {l : List UInt8} {c : UInt8} (h : c ∈ l) : (before c l).length < l.length := by
  induction l with
  | nil => simp at h
  | cons d l ih =>
    by_cases e : d = c
    · subst e; rw [before_here]; simp
    · have hl : c ∈ l := by
        rcases List.mem_cons.1 h with q | q
        · exact absurd q.symm e
        · exact q
      rw [before_skip e]; simp only [List.length_cons]; have := ih hl; omega
theorem behind_none {l : List UInt8} {c : UInt8} (h : ¬ c ∈ l) : behind c l = [] := by
  have := behind_clean h []
  rw [List.append_nil] at this
  rw [this]; rfl
/-- what a cut at one byte returns -/
def CutAt (w : World) (d : Bool) (A B : List UInt8) (e : Ending) (w' : World) : Prop := ∃ a b : ByteArray, e = .returned (.tuple #[.string a, .string b, .bool d]) ∧ a.data.toList = A ∧ b.data.toList = B ∧ ∃ n, w' = w.drewN n
theorem bytes_mk (l : List UInt8) : (⟨l.toArray⟩ : ByteArray).data.toList = l := rfl
set_option maxHeartbeats 1000000 in
theorem cutL_any (s : ByteArray) (hs : s.size ≤ 1000000) (c : UInt8) (w : World) : Calls Tryz.prog 116 #[.string s, .string ⟨#[c]⟩] w (CutAt w (decide (c ∈ s.data.toList)) (before c s.data.toList) (behind c s.data.toList)) := by
  have hl : s.data.toList.length = s.size := (Lib.size_eq s).symm
  by_cases hc : c ∈ s.data.toList
  · have HI := Lib.hid (index_here hc)
    have hlt := before_less hc
    have HA : Hid ((s.extract 0 (before c s.data.toList).length).data.toList = before c s.data.toList) := by
      show _ = _
      rw [Kit.take_bytes, before_take]
    have HB : Hid ((s.extract ((before c s.data.toList).length + 1) s.size).data.toList = behind c s.data.toList) := by
      show _ = _
      rw [Kit.drop_bytes, before_drop]
    have HD := Lib.hid (decide_eq_true hc)
    rw [HD.out]
    have HCA := HA.out.symm
    have HCB := HB.out.symm
    obtain ⟨k, hk⟩ : ∃ k, (before c s.data.toList).length = k := ⟨_, rfl⟩
    rw [hk] at HI HA HB HCA HCB hlt
    rw [HCA, HCB]
    have h1 : k < s.size := by omega
    have h2 : (k : Int) < (s.size : Int) := by omega
    have hw : wrap64 ((k : Int) + 1) = ((k + 1 : Nat) : Int) := by unfold wrap64; omega
    have h3 : ((k + 1 : Nat) : Int) ≤ (s.size : Int) := by omega
    clear HA HB HCA HCB hk hlt hl hc HD
    go_enter Tryz.func116, Tryz.ntmps116
    go_wp2_with (go_at_call 124; refine (Tryz.stringslite_Index_one s c w).mono ?_; rintro e w' ⟨rfl, rfl⟩; rw [HI.out])
    go_quiet (fail)
    go_wp2_with fail
    refine bodyPost_ret (results_tmp3 rfl _ _ _) rfl ?_
    exact ⟨_, _, rfl, by first | rfl | (simp), by first | rfl | simp, nq, rfl⟩
  · have HI := Lib.hid (index_none hc)
    have HD := Lib.hid (decide_eq_false hc)
    have HB := Lib.hid (behind_none hc)
    have HA := Lib.hid (before_all hc)
    rw [HD.out, HA.out, HB.out]
    clear HA HB HD hl hc
    go_enter Tryz.func116, Tryz.ntmps116
    go_wp2_with (go_at_call 124; refine (Tryz.stringslite_Index_one s c w).mono ?_; rintro e w' ⟨rfl, rfl⟩; rw [HI.out])
    refine bodyPost_ret (results_tmp3 rfl _ _ _) rfl ?_
    exact ⟨_, _, rfl, rfl, rfl, 0, rfl⟩
theorem cut_any (s : ByteArray) (hs : s.size ≤ 1000000) (c : UInt8) (w : World) : Calls Tryz.prog 104 #[.string s, .string ⟨#[c]⟩] w (CutAt w (decide (c ∈ s.data.toList)) (before c s.data.toList) (behind c s.data.toList)) := by
  have HC := Lib.hid (cutL_any s hs c w)
  generalize decide (c ∈ s.data.toList) = d at *
  generalize before c s.data.toList = A at *
  generalize behind c s.data.toList = B at *
  go_enter Tryz.func104, Tryz.ntmps104
  go_wp2_with fail
  refine HC.out.mono ?_
  rintro e w' ⟨a, b, rfl, h1, h2, n, rfl⟩
  have H1 := Lib.hid h1
  have H2 := Lib.hid h2
  clear h1 h2
  go_wp2_with fail
  refine bodyPost_ret (results_tmp3 rfl _ _ _) rfl ?_
  exact ⟨a, b, rfl, H1.out, H2.out, n, rfl⟩

/-! digits -/
theorem info256 : (Tryz.prog.info? (Tryz.lays160_ren.t 116)).map (fun i => (i.zero, i.size)) = some (some (.agg (Array.replicate 256 (.bool false))), 256) := by kernel_rfl
def tens : List UInt8 := [48, 49, 50, 51, 52, 53, 54, 55, 56, 57]
theorem tens_dig (c : UInt8) : tens.contains c = dig c := by
  have h : ∀ n : Fin 256, tens.contains (UInt8.ofNat n.val) = dig (UInt8.ofNat n.val) := by decide +kernel
  have := h ⟨c.toNat, c.toNat_lt⟩
  simpa using this
theorem drop_dig : ∀ (l : List UInt8), l.all dig = true → l.dropWhile dig = []
  | [], _ => rfl
  | c :: l, h => by
    rw [List.all_cons, Bool.and_eq_true] at h
    rw [List.dropWhile_cons_of_pos h.1]
    exact drop_dig l h.2
theorem trim_nil {t : List UInt8} : (Lib.trimS t tens == []) = t.all dig := by
  have e : (fun c => tens.contains c) = dig := funext tens_dig
  unfold Lib.trimS Lib.trimLeftS Lib.trimRightS
  rw [e]
  cases h : t.all dig with
  | true =>
    have : t.reverse.dropWhile dig = [] := by
      refine drop_dig _ (List.all_eq_true.2 fun x hx => ?_)
      exact List.all_eq_true.1 h x (List.mem_reverse.1 hx)
    rw [this]; rfl
  | false =>
    obtain ⟨x, hx, hn⟩ : ∃ x, x ∈ t ∧ dig x = false := by
      have := List.all_eq_false.1 h
      obtain ⟨x, hx, hn⟩ := this
      exact ⟨x, hx, by simpa using hn⟩
    have h1 : ∀ l : List UInt8, x ∈ l → x ∈ l.dropWhile dig := by
      intro l
      induction l with
      | nil => intro q; simp at q
      | cons d l ih =>
        intro q
        by_cases hd : dig d = true
        · rw [List.dropWhile_cons_of_pos hd]
          rcases List.mem_cons.1 q with q | q
          · subst q; rw [hn] at hd; cases hd
          · exact ih q
        · rw [List.dropWhile_cons_of_neg hd]; exact q
    have h2 := h1 _ (List.mem_reverse.2 (h1 _ (List.mem_reverse.2 hx)))
    cases hq : (List.dropWhile dig (List.dropWhile dig t.reverse).reverse) with
    | nil => rw [hq] at h2; simp at h2
    | cons a b => rfl
theorem trim_any (s : ByteArray) (hs : s.size ≤ 1000000) (w : World) : Calls Tryz.prog 39 #[.string s, .string ⟨#[48, 49, 50, 51, 52, 53, 54, 55, 56, 57]⟩] w fun e w' => ∃ d : ByteArray, e = .returned (.string d) ∧ d.toList.isEmpty = s.data.toList.all dig ∧ Below w.heap.size w w' := by
  refine Calls.mono (Any.strings_Trim_laid Tryz.lays160 info256 s ⟨#[48, 49, 50, 51, 52, 53, 54, 55, 56, 57]⟩ w (by omega) (by decide) (ascii_of_all (by decide))) ?_
  rintro e w1 ⟨rfl, hb⟩
  refine ⟨_, rfl, ?_, hb⟩
  rw [← trim_nil, Lib.toList_data, bytes_mk]
  show (Lib.trimS s.data.toList tens).isEmpty = _
  cases Lib.trimS s.data.toList tens <;> rfl
set_option maxHeartbeats 1000000 in
theorem isNumber_any (s : ByteArray) (hs : s.size ≤ 1000000) (w : World) : Calls Tryz.prog 105 #[.string s] w fun e w' => e = .returned (.bool (isNum s.data.toList)) ∧ Below w.heap.size w w' := by
  have hl : s.data.toList.length = s.size := (Lib.size_eq s).symm
  by_cases h0 : 0 < s.size
  · have he := list_full h0
    by_cases h3 : s.size ≤ 3
    · have HV : Hid (isNum s.data.toList = s.data.toList.all dig) := by
        unfold Hid isNum
        rw [decide_eq_true (Kit.bytes_ne h0), decide_eq_true (by omega), Bool.true_and, Bool.true_and]
      have h3' : (s.size : Int) ≤ 3 := by omega
      have HT := Lib.hid (trim_any s hs w)
      rw [HV.out]
      generalize s.data.toList.all dig = b at *
      clear hl HV
      go_enter Tryz.func105, Tryz.ntmps105
      go_wp2_with fail
      refine HT.out.mono ?_
      rintro e w1 ⟨d, rfl, hd, hb⟩
      have HB := Lib.hid hb
      clear hb
      go_wp2_with fail
      go_ret
      exact ⟨rfl, HB.out⟩
    · have HV : Hid (isNum s.data.toList = false) := by
        unfold Hid isNum
        rw [decide_eq_false (p := s.data.toList.length ≤ 3) (by omega), Bool.false_and, Bool.and_false]
      have h3' : ¬ (s.size : Int) ≤ 3 := by omega
      rw [HV.out]
      clear hl HV
      go_enter Tryz.func105, Tryz.ntmps105
      go_wp2_with fail
      go_ret
      exact ⟨rfl, Below.refl _ _⟩
  · have he := list_none h0
    have HV : Hid (isNum s.data.toList = false) := by
      unfold Hid isNum
      rw [Kit.bytes_nil h0]; rfl
    rw [HV.out]
    clear hl HV
    go_enter Tryz.func105, Tryz.ntmps105
    go_wp2_with fail
    go_ret
    exact ⟨rfl, Below.refl _ _⟩
theorem digitVal_dig {c : UInt8} (h : dig c = true) : Lib.digitVal c = some (c.toNat - 48) := by
  unfold Lib.digitVal
  unfold dig at h
  simp only [Bool.and_eq_true, decide_eq_true_eq] at h
  rw [if_pos ⟨h.1, h.2⟩]
theorem decFrom_dig : ∀ (l : List UInt8) (n : Nat), l.all dig = true → Lib.decFrom n l = some (l.foldl (fun n c => n * 10 + (c.toNat - 48)) n)
  | [], n, _ => rfl
  | c :: l, n, h => by
    rw [List.all_cons, Bool.and_eq_true] at h
    unfold Lib.decFrom
    rw [digitVal_dig h.1]
    exact decFrom_dig l _ h.2
theorem atoi_num {t : List UInt8} (h : isNum t = true) : Lib.atoi t = some (val t : Int) := by
  unfold isNum at h
  simp only [Bool.and_eq_true, decide_eq_true_eq] at h
  obtain ⟨h1, -, h2⟩ := h
  cases t with
  | nil => exact absurd rfl h1
  | cons c l =>
    have hc := (List.all_cons ▸ h2 : (dig c && l.all dig) = true)
    have hd : dig c = true := (Bool.and_eq_true_iff.1 hc).1
    have n45 : ¬ c = 45 := by rintro rfl; revert hd; decide
    have n43 : ¬ c = 43 := by rintro rfl; revert hd; decide
    unfold Lib.atoi
    simp only
    rw [if_neg (by simpa using n45), if_neg (by simpa using n43)]
    unfold Lib.decNat
    rw [if_neg (by simp), decFrom_dig _ _ h2]
    rfl
theorem value_any (s : ByteArray) (h : isNum s.data.toList = true) (w : World) : Calls Tryz.prog 106 #[.string s] w fun e w' => e = .returned (.int .i64 (val s.data.toList)) ∧ Below w.heap.size w w' := by
  have hz : s.size ≤ 3 := by
    unfold isNum at h
    simp only [Bool.and_eq_true, decide_eq_true_eq] at h
    rw [Lib.size_eq]; exact h.2.1
  have HT := Lib.hid (Tryz.strconv_Atoi s (val s.data.toList) (by omega) (atoi_num h) w)
  generalize val s.data.toList = n at *
  clear h
  go_enter Tryz.func106, Tryz.ntmps106
  go_wp2_with fail
  refine HT.out.mono ?_
  rintro e w1 ⟨rfl, t, rfl⟩
  go_wp2_with fail
  go_ret
  exact ⟨rfl, Joins.below_bytesWorld _ _ _ _ (Nat.le_refl _)⟩
set_option maxHeartbeats 1000000 in
theorem mayBe_any (m t : Int) (w : World) : Calls Tryz.prog 74 #[.int .i64 m, .int .i64 t] w fun e w' => e = .returned (.bool (mayB m t)) ∧ w' = w := by
  by_cases h1 : 0 ≤ m
  · by_cases h2 : m ≤ 100
    · by_cases h3 : t = -1
      · have t3 : (t == -1) = true := by simpa using h3
        have HV : Hid (mayB m t = true) := by
          unfold Hid mayB
          simp [h1, h2, h3]
        rw [HV.out]
        clear HV
        go_enter Tryz.func74, Tryz.ntmps74
        go_wp2_with fail
        go_ret
        exact ⟨rfl, rfl⟩
      · have t3 : (t == -1) = false := by simpa using h3
        by_cases h4 : m ≤ t
        · by_cases h5 : t ≤ 100
          · skip
            have HV : Hid (mayB m t = true) := by
              unfold Hid mayB
              simp [h1, h2, h3, h4, h5]
            rw [HV.out]
            clear HV
            go_enter Tryz.func74, Tryz.ntmps74
            go_wp2_with fail
            go_ret
            exact ⟨rfl, rfl⟩
          · skip
            have HV : Hid (mayB m t = false) := by
              unfold Hid mayB
              simp [h1, h2, h3, h4, h5]
            rw [HV.out]
            clear HV
            go_enter Tryz.func74, Tryz.ntmps74
            go_wp2_with fail
            go_ret
            exact ⟨rfl, rfl⟩
        · skip
          have HV : Hid (mayB m t = false) := by
            unfold Hid mayB
            simp [h1, h2, h3, h4]
          rw [HV.out]
          clear HV
          go_enter Tryz.func74, Tryz.ntmps74
          go_wp2_with fail
          go_ret
          exact ⟨rfl, rfl⟩
    · skip
      have HV : Hid (mayB m t = false) := by
        unfold Hid mayB
        simp [h1, h2]
      rw [HV.out]
      clear HV
      go_enter Tryz.func74, Tryz.ntmps74
      go_wp2_with fail
      go_ret
      exact ⟨rfl, rfl⟩
  · skip
    have HV : Hid (mayB m t = false) := by
      unfold Hid mayB
      simp [h1]
    rw [HV.out]
    clear HV
    go_enter Tryz.func74, Tryz.ntmps74
    go_wp2_with fail
    go_ret
    exact ⟨rfl, rfl⟩
end Go.Proofs.YtmbibaccpeldoaaGreatDoor.W14
/-
  Layer 15 (prog), walks of the program's isPlace, isText and goesOn: whether a step may be. The conditions stand in the statements.
-/
namespace Go.Proofs.YtmbibaccpeldoaaGreatDoor.M15
set_option maxRecDepth 100000
open Go Go.Proofs.YtmbibaccpeldoaaGreatDoor.M13
/-- whether a step's text may be -/
def txtOk (k : Int) (t : ByteArray) : Bool := if k = 1 then decide (t.size = 1) else if k = 3 then good t.data.toList else decide (t.size = 0)
def place (a : Int) (n : Nat) : Bool := decide (0 ≤ a) && decide (a < n)
/-- whether a step goes on as those of its kind -/
def goes (k a b : Int) (n : Nat) : Bool :=
  if k = 6 then place a n && place b n else if k = 7 then decide (a = 0) && decide (b = 0) else if 1 ≤ k ∧ k ≤ 8 then place a n && decide (b = 0) else false
def okI (n : Nat) (x : Inst) : Bool := txtOk x.kind x.text && goes x.kind x.x x.y n
/-- whether a program may be -/
def rightP (l : List Inst) : Bool := l.all (okI l.length) && decide (0 < l.length)
def zero1 (c : UInt8) : Bool := decide (c = 48) || decide (c = 49)
theorem two_digit (c : UInt8) : ([48, 49] : List UInt8).contains c = zero1 c := by
  unfold zero1
  by_cases h1 : c = 48
  · subst h1; rfl
  · by_cases h2 : c = 49
    · subst h2; rfl
    · simp [h1, h2]
theorem drop_01 : ∀ (l : List UInt8), l.all zero1 = true → l.dropWhile zero1 = []
  | [], _ => rfl
  | c :: l, h => by
    rw [List.all_cons, Bool.and_eq_true] at h
    rw [List.dropWhile_cons_of_pos h.1]
    exact drop_01 l h.2
theorem trim_01 {t : List UInt8} : (Lib.trimS t [48, 49] == []) = t.all zero1 := by
  have e : (fun c => ([48, 49] : List UInt8).contains c) = zero1 := funext two_digit
  unfold Lib.trimS Lib.trimLeftS Lib.trimRightS
  rw [e]
  cases h : t.all zero1 with
  | true =>
    have : t.reverse.dropWhile zero1 = [] := by
      refine drop_01 _ (List.all_eq_true.2 fun x hx => ?_)
      exact List.all_eq_true.1 h x (List.mem_reverse.1 hx)
    rw [this]; rfl
  | false =>
    obtain ⟨x, hx, hn⟩ : ∃ x, x ∈ t ∧ zero1 x = false := by
      have := List.all_eq_false.1 h
      obtain ⟨x, hx, hn⟩ := this
      exact ⟨x, hx, by simpa using hn⟩
    have h1 : ∀ l : List UInt8, x ∈ l → x ∈ l.dropWhile zero1 := by
      intro l
      induction l with
      | nil => intro q; simp at q
      | cons d l ih =>
        intro q
        by_cases hd : zero1 d = true
        · rw [List.dropWhile_cons_of_pos hd]
          rcases List.mem_cons.1 q with q | q
          · subst q; rw [hn] at hd; cases hd
          · exact ih q
        · rw [List.dropWhile_cons_of_neg hd]; exact q
    have h2 := h1 _ (List.mem_reverse.2 (h1 _ (List.mem_reverse.2 hx)))
    cases hq : (List.dropWhile zero1 (List.dropWhile zero1 t.reverse).reverse) with
    | nil => rw [hq] at h2; simp at h2
    | cons a b => rfl
theorem good_is (t : ByteArray) (h : t.size = 256) : good t.data.toList = t.data.toList.all zero1 := by
  unfold good
  rw [← Lib.size_eq, decide_eq_true h, Bool.true_and]; rfl
theorem good_not (t : ByteArray) (h : ¬ t.size = 256) : good t.data.toList = false := by
  unfold good
  rw [← Lib.size_eq, decide_eq_false h, Bool.false_and]
end Go.Proofs.YtmbibaccpeldoaaGreatDoor.M15
namespace Go.Proofs.YtmbibaccpeldoaaGreatDoor.W15
open Go Go.RowKit Go.Proofs.YtmbibaccpeldoaaGreatDoor.Strs Go.Proofs.YtmbibaccpeldoaaGreatDoor.Recs Go.Proofs.YtmbibaccpeldoaaGreatDoor.M15
open Go.Proofs.YtmbibaccpeldoaaGreatDoor.M13 (good)
open Go.Proofs.YtmbibaccpeldoaaGreatDoor.Kit (below_draws on)

theorem trim01_any (s : ByteArray) (hs : s.size ≤ 1000000) (w : World) : Calls Tryz.prog 39 #[.string s, .string ⟨#[48, 49]⟩] w fun e w' => ∃ d : ByteArray, e = .returned (.string d) ∧ d.toList.isEmpty = s.data.toList.all zero1 ∧ Below w.heap.size w w' := by
  refine Calls.mono (Any.strings_Trim_laid Tryz.lays160 W14.info256 s ⟨#[48, 49]⟩ w (by omega) (by decide) (Go.Proofs.ascii_of_all (by decide))) ?_
  rintro e w1 ⟨rfl, hb⟩
  refine ⟨_, rfl, ?_, hb⟩
  rw [← trim_01, Lib.toList_data, W14.bytes_mk]
  show (Lib.trimS s.data.toList [48, 49]).isEmpty = _
  cases Lib.trimS s.data.toList [48, 49] <;> rfl
set_option maxHeartbeats 1000000 in
theorem isPlace_any (a : Int) (n : Nat) (w : World) : Calls Tryz.prog 40 #[.int .i64 a, .int .i64 n] w fun e w' => e = .returned (.bool (place a n)) ∧ w' = w := by
  unfold place
  by_cases h1 : 0 ≤ a
  · by_cases h2 : a < n
    · rw [decide_eq_true h1, decide_eq_true h2]
      go_enter Tryz.func40, Tryz.ntmps40
      go_wp2_with fail
      go_ret
      exact ⟨rfl, rfl⟩
    · rw [decide_eq_true h1, decide_eq_false h2]
      go_enter Tryz.func40, Tryz.ntmps40
      go_wp2_with fail
      go_ret
      exact ⟨rfl, rfl⟩
  · rw [decide_eq_false h1, Bool.false_and]
    go_enter Tryz.func40, Tryz.ntmps40
    go_wp2_with fail
    go_ret
    exact ⟨rfl, rfl⟩
set_option maxHeartbeats 2000000 in
theorem isText_any (x : Inst) (w : World) : Calls Tryz.prog 21 #[.agg (insA x)] w fun e w' => e = .returned (.bool (txtOk x.kind x.text)) ∧ Below w.heap.size w w' := by
  obtain ⟨k, t, a, b⟩ := x
  unfold txtOk
  simp only
  by_cases h1 : k = 1
  · subst h1
    rw [if_pos rfl]
    by_cases hz : t.size = 1
    · rw [decide_eq_true hz]
      have tz : ((t.size : Int) == 1) = true := by simp [hz]
      clear hz
      go_enter Tryz.func21, Tryz.ntmps21
      go_wp2_with (first
        | (refine box_ins (r := ⟨1, t, a, b⟩) rfl (.tmp 0) rfl rfl ?_; intro w1 b1 e1 p1 l1 z1; have c0 := p1.c0; have c1 := p1.c1; have L1 := Lib.hid l1; clear e1 p1 l1 z1; simp only at c0 c1))
      go_ret
      exact ⟨rfl, L1.out⟩
    · rw [decide_eq_false hz]
      have tz : ((t.size : Int) == 1) = false := by simp; omega
      clear hz
      go_enter Tryz.func21, Tryz.ntmps21
      go_wp2_with (first
        | (refine box_ins (r := ⟨1, t, a, b⟩) rfl (.tmp 0) rfl rfl ?_; intro w1 b1 e1 p1 l1 z1; have c0 := p1.c0; have c1 := p1.c1; have L1 := Lib.hid l1; clear e1 p1 l1 z1; simp only at c0 c1))
      go_ret
      exact ⟨rfl, L1.out⟩
  · rw [if_neg h1]
    have t1 : (k == 1) = false := by simpa using h1
    by_cases h3 : k = 3
    · subst h3
      rw [if_pos rfl]
      by_cases hz : t.size = 256
      · rw [good_is t hz]
        have tz : ((t.size : Int) == 256) = true := by simp [hz]
        have HT := Lib.hid (fun w => trim01_any t (by omega) w)
        clear hz
        generalize t.data.toList.all zero1 = g at *
        go_enter Tryz.func21, Tryz.ntmps21
        go_wp2_with (first
          | (refine box_ins (r := ⟨3, t, a, b⟩) rfl (.tmp 0) rfl rfl ?_; intro w1 b1 e1 p1 l1 z1; have c0 := p1.c0; have c1 := p1.c1; have L1 := Lib.hid l1; clear e1 p1 l1 z1; simp only at c0 c1))
        refine (HT.out _).mono ?_
        rintro e w2 ⟨d, rfl, hd, l2⟩
        have L2 := Lib.hid (on L1.out l2)
        clear l2
        go_wp2_with fail
        go_ret
        exact ⟨rfl, L2.out⟩
      · rw [good_not t hz]
        have tz : ((t.size : Int) == 256) = false := by simp; omega
        clear hz
        go_enter Tryz.func21, Tryz.ntmps21
        go_wp2_with (first
          | (refine box_ins (r := ⟨3, t, a, b⟩) rfl (.tmp 0) rfl rfl ?_; intro w1 b1 e1 p1 l1 z1; have c0 := p1.c0; have c1 := p1.c1; have L1 := Lib.hid l1; clear e1 p1 l1 z1; simp only at c0 c1))
        go_ret
        exact ⟨rfl, L1.out⟩
    · rw [if_neg h3]
      have t3 : (k == 3) = false := by simpa using h3
      clear h1 h3
      by_cases hz : t.size = 0
      · rw [decide_eq_true hz]
        have te := Kit.list_none (s := t) (by omega)
        clear hz
        go_enter Tryz.func21, Tryz.ntmps21
        go_wp2_with (first
          | (refine box_ins (r := ⟨k, t, a, b⟩) rfl (.tmp 0) rfl rfl ?_; intro w1 b1 e1 p1 l1 z1; have c0 := p1.c0; have c1 := p1.c1; have L1 := Lib.hid l1; clear e1 p1 l1 z1; simp only at c0 c1))
        go_ret
        exact ⟨rfl, L1.out⟩
      · rw [decide_eq_false hz]
        have te := Kit.list_full (s := t) (by omega)
        clear hz
        go_enter Tryz.func21, Tryz.ntmps21
        go_wp2_with (first
          | (refine box_ins (r := ⟨k, t, a, b⟩) rfl (.tmp 0) rfl rfl ?_; intro w1 b1 e1 p1 l1 z1; have c0 := p1.c0; have c1 := p1.c1; have L1 := Lib.hid l1; clear e1 p1 l1 z1; simp only at c0 c1))
        go_ret
        exact ⟨rfl, L1.out⟩
end Go.Proofs.YtmbibaccpeldoaaGreatDoor.W15
