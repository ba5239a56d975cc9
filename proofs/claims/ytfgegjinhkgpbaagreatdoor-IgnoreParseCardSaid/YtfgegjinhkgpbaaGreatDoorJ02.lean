/-
  Texts joined, in build order, each with its own comment and its own conditions: Shelf, W04Seq, Strs, StrOwn, W04Iter, W04Parts, W04Clean, W03Walk, W04Join.
-/
import Derived.Shelf.Strings.Trim
import Derived.Shelf.Small.Strs
import Derived.Shelf.Small.Wraps
import Derived.Shelf.Strconv.Atoi
import Derived.Shelf.Strings.Search1
import Derived.Shelf.Strings.Search2
import Derived.Shelf.Strings.Search3
import Derived.Shelf.Strings.Cut
import Derived.Shelf.Strings.Count
import Derived.Shelf.Strings.Prefix
import Derived.Test.YtfgegjinhkgpbaaGreatDoorProg
import Derived.Test.YtfgegjinhkgpbaaGreatDoorJ01
import Derived.Test.YtfgegjinhkgpbaaGreatDoorChecked
import Derived.RangeFuncBound
import Derived.Shelf.Abstract
import Derived.Shelf.RegionOpen
import Derived.WalkKit
import Derived.OwnWalkIn
import Derived.TacticsInMore
import Derived.LoopNIn
import Derived.LoopIn
import Derived.Below
import Derived.Laws.OwnMore
import Derived.Deep.AppendLies
import Derived.Deep.Draws
import Derived.Lib.Strings
import Derived.Lib.Hide
import Derived.RangeFuncBox
import Derived.WalkSpells
import Derived.WalkLawsBesides
import Derived.BigQuiet
namespace Go.Proofs
open Go.Shelf
def Tryz.WM:Go.Shelf.Ren:=⟨fun|162=>41|232=>63|227=>64|234=>66|236=>68|228=>90|271=>93|151=>92|120=>123|197=>91|152=>122|260=>121|137=>37|119=>145|224=>125|225=>124|217=>61|266=>89|n=>n,fun|9=>9|4=>4|3=>3|5=>5|117=>90|116=>89|0=>0|124=>93|21=>21|105=>115|46=>138|119=>149|139=>152|138=>151|n=>n,fun|3=>1|4=>2|n=>n⟩
theorem Tryz.mo:Go.Proofs.Lays.n162 Tryz.prog Tryz.WM:= {
 mixed:=by kernel_rfl
 f119:=Tryz.func145.trans (congrArg some (by kernel_rfl))
 f120:=Tryz.func123.trans (congrArg some (by kernel_rfl))
 f137:=Tryz.func37.trans (congrArg some (by kernel_rfl))
 f151:=Tryz.func92.trans (congrArg some (by kernel_rfl))
 f152:=Tryz.func122.trans (congrArg some (by kernel_rfl))
 f162:=Tryz.func41.trans (congrArg some (by kernel_rfl))
 f197:=Tryz.func91.trans (congrArg some (by kernel_rfl))
 f217:=Tryz.func61.trans (congrArg some (by kernel_rfl))
 f224:=Tryz.func125.trans (congrArg some (by kernel_rfl))
 f225:=Tryz.func124.trans (congrArg some (by kernel_rfl))
 f227:=Tryz.func64.trans (congrArg some (by kernel_rfl))
 f228:=Tryz.func90.trans (congrArg some (by kernel_rfl))
 f232:=Tryz.func63.trans (congrArg some (by kernel_rfl))
 f234:=Tryz.func66.trans (congrArg some (by kernel_rfl))
 f236:=Tryz.func68.trans (congrArg some (by kernel_rfl))
 f260:=Tryz.func121.trans (congrArg some (by kernel_rfl))
 f266:=Tryz.func89.trans (congrArg some (by kernel_rfl))
 f271:=Tryz.func93.trans (congrArg some (by kernel_rfl))
 t0:=Tryz.underlying0
 a0:=Tryz.isAgg0
 z0:=Tryz.sizeOf0
 v0:=Tryz.zeroValue0
 t3:=Tryz.underlying3
 a3:=Tryz.isAgg3
 z3:=Tryz.sizeOf3
 v3:=Tryz.zeroValue3
 t4:=Tryz.underlying4
 a4:=Tryz.isAgg4
 z4:=Tryz.sizeOf4
 v4:=Tryz.zeroValue4
 t5:=Tryz.underlying5
 a5:=Tryz.isAgg5
 z5:=Tryz.sizeOf5
 v5:=Tryz.zeroValue5
 t9:=Tryz.underlying9
 a9:=Tryz.isAgg9
 z9:=Tryz.sizeOf9
 v9:=Tryz.zeroValue9
 t21:=Tryz.underlying21
 a21:=Tryz.isAgg21
 z21:=Tryz.sizeOf21
 v21:=Tryz.zeroValue21
 t46:=Tryz.underlying138
 a46:=Tryz.isAgg138
 z46:=Tryz.sizeOf138
 v46:=Tryz.zeroValue138
 t105:=Tryz.underlying115
 a105:=Tryz.isAgg115
 z105:=Tryz.sizeOf115
 v105:=Tryz.zeroValue115
 t116:=Tryz.underlying89
 a116:=Tryz.isAgg89
 z116:=Tryz.sizeOf89
 t117:=Tryz.underlying90
 a117:=Tryz.isAgg90
 z117:=Tryz.sizeOf90
 v117:=Tryz.zeroValue90
 t119:=Tryz.underlying149
 a119:=Tryz.isAgg149
 z119:=Tryz.sizeOf149
 t124:=Tryz.underlying93
 a124:=Tryz.isAgg93
 z124:=Tryz.sizeOf93
 v124:=Tryz.zeroValue93
 t138:=Tryz.underlying151
 a138:=Tryz.isAgg151
 z138:=Tryz.sizeOf151
 v138:=Tryz.zeroValue151
 t139:=Tryz.underlying152
 a139:=Tryz.isAgg152
 z139:=Tryz.sizeOf152
 v139:=Tryz.zeroValue152
 g3:=by kernel_rfl
 g4:=by kernel_rfl}
def Tryz.Oc:Go.Shelf.Ren:=⟨fun|160=>38|232=>63|231=>62|227=>64|234=>66|233=>65|236=>68|235=>67|228=>90|271=>93|151=>92|197=>91|120=>123|152=>122|260=>121|137=>37|119=>145|224=>125|225=>124|217=>61|266=>89|n=>n,fun|9=>9|4=>4|3=>3|5=>5|117=>90|116=>89|0=>0|124=>93|21=>21|105=>115|46=>138|119=>149|139=>152|138=>151|n=>n,fun|3=>1|4=>2|n=>n⟩
theorem Tryz.U2:Go.Proofs.Lays.n160 Tryz.prog Tryz.Oc:= {
 mixed:=by kernel_rfl
 f119:=Tryz.func145.trans (congrArg some (by kernel_rfl))
 f120:=Tryz.func123.trans (congrArg some (by kernel_rfl))
 f137:=Tryz.func37.trans (congrArg some (by kernel_rfl))
 f151:=Tryz.func92.trans (congrArg some (by kernel_rfl))
 f152:=Tryz.func122.trans (congrArg some (by kernel_rfl))
 f160:=Tryz.func38.trans (congrArg some (by kernel_rfl))
 f197:=Tryz.func91.trans (congrArg some (by kernel_rfl))
 f217:=Tryz.func61.trans (congrArg some (by kernel_rfl))
 f224:=Tryz.func125.trans (congrArg some (by kernel_rfl))
 f225:=Tryz.func124.trans (congrArg some (by kernel_rfl))
 f227:=Tryz.func64.trans (congrArg some (by kernel_rfl))
 f228:=Tryz.func90.trans (congrArg some (by kernel_rfl))
 f231:=Tryz.func62.trans (congrArg some (by kernel_rfl))
 f232:=Tryz.func63.trans (congrArg some (by kernel_rfl))
 f233:=Tryz.func65.trans (congrArg some (by kernel_rfl))
 f234:=Tryz.func66.trans (congrArg some (by kernel_rfl))
 f235:=Tryz.func67.trans (congrArg some (by kernel_rfl))
 f236:=Tryz.func68.trans (congrArg some (by kernel_rfl))
 f260:=Tryz.func121.trans (congrArg some (by kernel_rfl))
 f266:=Tryz.func89.trans (congrArg some (by kernel_rfl))
 f271:=Tryz.func93.trans (congrArg some (by kernel_rfl))
 t0:=Tryz.underlying0
 a0:=Tryz.isAgg0
 z0:=Tryz.sizeOf0
 v0:=Tryz.zeroValue0
 t3:=Tryz.underlying3
 a3:=Tryz.isAgg3
 z3:=Tryz.sizeOf3
 v3:=Tryz.zeroValue3
 t4:=Tryz.underlying4
 a4:=Tryz.isAgg4
 z4:=Tryz.sizeOf4
 v4:=Tryz.zeroValue4
 t5:=Tryz.underlying5
 a5:=Tryz.isAgg5
 z5:=Tryz.sizeOf5
 v5:=Tryz.zeroValue5
 t9:=Tryz.underlying9
 a9:=Tryz.isAgg9
 z9:=Tryz.sizeOf9
 v9:=Tryz.zeroValue9
 t21:=Tryz.underlying21
 a21:=Tryz.isAgg21
 z21:=Tryz.sizeOf21
 v21:=Tryz.zeroValue21
 t46:=Tryz.underlying138
 a46:=Tryz.isAgg138
 z46:=Tryz.sizeOf138
 v46:=Tryz.zeroValue138
 t105:=Tryz.underlying115
 a105:=Tryz.isAgg115
 z105:=Tryz.sizeOf115
 v105:=Tryz.zeroValue115
 t116:=Tryz.underlying89
 a116:=Tryz.isAgg89
 z116:=Tryz.sizeOf89
 t117:=Tryz.underlying90
 a117:=Tryz.isAgg90
 z117:=Tryz.sizeOf90
 v117:=Tryz.zeroValue90
 t119:=Tryz.underlying149
 a119:=Tryz.isAgg149
 z119:=Tryz.sizeOf149
 t124:=Tryz.underlying93
 a124:=Tryz.isAgg93
 z124:=Tryz.sizeOf93
 v124:=Tryz.zeroValue93
 t138:=Tryz.underlying151
 a138:=Tryz.isAgg151
 z138:=Tryz.sizeOf151
 v138:=Tryz.zeroValue151
 t139:=Tryz.underlying152
 a139:=Tryz.isAgg152
 z139:=Tryz.sizeOf152
 v139:=Tryz.zeroValue152
 g3:=by kernel_rfl
 g4:=by kernel_rfl}
def Tryz.WN:Go.Shelf.Ren:=⟨fun|137=>37|217=>61|266=>89|n=>n,fun|9=>9|5=>5|3=>3|n=>n,fun|n=>n⟩
theorem Tryz.mq:Go.Proofs.Lays.n137 Tryz.prog Tryz.WN:= {
 mixed:=by kernel_rfl
 f137:=Tryz.func37.trans (congrArg some (by kernel_rfl))
 f217:=Tryz.func61.trans (congrArg some (by kernel_rfl))
 f266:=Tryz.func89.trans (congrArg some (by kernel_rfl))
 t3:=Tryz.underlying3
 a3:=Tryz.isAgg3
 z3:=Tryz.sizeOf3
 v3:=Tryz.zeroValue3
 t5:=Tryz.underlying5
 a5:=Tryz.isAgg5
 z5:=Tryz.sizeOf5
 v5:=Tryz.zeroValue5
 t9:=Tryz.underlying9
 a9:=Tryz.isAgg9
 z9:=Tryz.sizeOf9
 v9:=Tryz.zeroValue9}
open Go.RowKit in
theorem Tryz.strings_IndexByte (s:ByteArray) (c:Int) (w:World):
    Calls Tryz.prog 37 #[.string s,.int .u8 c] w fun e w'=>e= .returned (.int .i64 (Lib.indexByte s.data.toList c.toNat.toUInt8))/\w'=w:=Any.strings_IndexByte Tryz.mq s c w
def Tryz.WO:Go.Shelf.Ren:=⟨fun|103=>179|210=>184|206=>69|n=>n,fun|9=>9|4=>4|24=>164|3=>3|n=>n,fun|n=>n⟩
theorem Tryz.mr:Go.Proofs.Lays.n103 Tryz.prog Tryz.WO:= {
 mixed:=by kernel_rfl
 f103:=Tryz.func179.trans (congrArg some (by kernel_rfl))
 f206:=Tryz.func69.trans (congrArg some (by kernel_rfl))
 f210:=Tryz.func184.trans (congrArg some (by kernel_rfl))
 t3:=Tryz.underlying3
 a3:=Tryz.isAgg3
 z3:=Tryz.sizeOf3
 v3:=Tryz.zeroValue3
 t4:=Tryz.underlying4
 a4:=Tryz.isAgg4
 z4:=Tryz.sizeOf4
 v4:=Tryz.zeroValue4
 t9:=Tryz.underlying9
 a9:=Tryz.isAgg9
 z9:=Tryz.sizeOf9
 v9:=Tryz.zeroValue9
 t24:=Tryz.underlying164
 a24:=Tryz.isAgg164
 z24:=Tryz.sizeOf164
 v24:=Tryz.zeroValue164}
open Go.RowKit in
theorem Tryz.strings_CutPrefix (s p:ByteArray) (w:World):
    Calls Tryz.prog 179 #[.string s,.string p] w fun e w'=>e= .returned (.tuple #[.string ⟨(Lib.trimPrefix s.data.toList p.data.toList).toArray⟩,.bool (Lib.hasPrefix s.data.toList p.data.toList)])/\w'=w:=Any.strings_CutPrefix Tryz.mr s p w
def Tryz.WQ:Go.Shelf.Ren:=⟨fun|172=>183|244=>187|245=>188|247=>192|279=>193|280=>194|281=>195|282=>196|287=>197|316=>198|171=>200|205=>199|321=>201|322=>202|243=>203|246=>204|283=>205|284=>206|285=>207|286=>208|129=>210|317=>209|318=>211|319=>212|320=>213|337=>214|338=>215|n=>n,fun|9=>9|3=>3|75=>183|76=>184|4=>4|5=>5|167=>194|37=>53|0=>0|85=>195|2=>2|168=>197|53=>200|175=>201|46=>138|210=>204|127=>208|145=>211|143=>209|21=>21|171=>213|173=>216|212=>219|51=>154|20=>20|213=>220|232=>224|233=>225|80=>177|n=>n,fun|15=>3|16=>4|17=>5|18=>6|19=>7|n=>n⟩
theorem Tryz.m_:Go.Proofs.Lays.n172 Tryz.prog Tryz.WQ:= {
 mixed:=by kernel_rfl
 f129:=Tryz.func210.trans (congrArg some (by kernel_rfl))
 f171:=Tryz.func200.trans (congrArg some (by kernel_rfl))
 f172:=Tryz.func183.trans (congrArg some (by kernel_rfl))
 f205:=Tryz.func199.trans (congrArg some (by kernel_rfl))
 f243:=Tryz.func203.trans (congrArg some (by kernel_rfl))
 f244:=Tryz.func187.trans (congrArg some (by kernel_rfl))
 f245:=Tryz.func188.trans (congrArg some (by kernel_rfl))
 f246:=Tryz.func204.trans (congrArg some (by kernel_rfl))
 f247:=Tryz.func192.trans (congrArg some (by kernel_rfl))
 f279:=Tryz.func193.trans (congrArg some (by kernel_rfl))
 f280:=Tryz.func194.trans (congrArg some (by kernel_rfl))
 f281:=Tryz.func195.trans (congrArg some (by kernel_rfl))
 f282:=Tryz.func196.trans (congrArg some (by kernel_rfl))
 f283:=Tryz.func205.trans (congrArg some (by kernel_rfl))
 f284:=Tryz.func206.trans (congrArg some (by kernel_rfl))
 f285:=Tryz.func207.trans (congrArg some (by kernel_rfl))
 f286:=Tryz.func208.trans (congrArg some (by kernel_rfl))
 f287:=Tryz.func197.trans (congrArg some (by kernel_rfl))
 f316:=Tryz.func198.trans (congrArg some (by kernel_rfl))
 f317:=Tryz.func209.trans (congrArg some (by kernel_rfl))
 f318:=Tryz.func211.trans (congrArg some (by kernel_rfl))
 f319:=Tryz.func212.trans (congrArg some (by kernel_rfl))
 f320:=Tryz.func213.trans (congrArg some (by kernel_rfl))
 f321:=Tryz.func201.trans (congrArg some (by kernel_rfl))
 f322:=Tryz.func202.trans (congrArg some (by kernel_rfl))
 f337:=Tryz.func214.trans (congrArg some (by kernel_rfl))
 f338:=Tryz.func215.trans (congrArg some (by kernel_rfl))
 t0:=Tryz.underlying0
 a0:=Tryz.isAgg0
 z0:=Tryz.sizeOf0
 v0:=Tryz.zeroValue0
 t2:=Tryz.underlying2
 a2:=Tryz.isAgg2
 z2:=Tryz.sizeOf2
 v2:=Tryz.zeroValue2
 t3:=Tryz.underlying3
 a3:=Tryz.isAgg3
 z3:=Tryz.sizeOf3
 v3:=Tryz.zeroValue3
 t4:=Tryz.underlying4
 a4:=Tryz.isAgg4
 z4:=Tryz.sizeOf4
 v4:=Tryz.zeroValue4
 t5:=Tryz.underlying5
 a5:=Tryz.isAgg5
 z5:=Tryz.sizeOf5
 v5:=Tryz.zeroValue5
 t9:=Tryz.underlying9
 a9:=Tryz.isAgg9
 z9:=Tryz.sizeOf9
 v9:=Tryz.zeroValue9
 t20:=Tryz.underlying20
 a20:=Tryz.isAgg20
 z20:=Tryz.sizeOf20
 v20:=Tryz.zeroValue20
 t21:=Tryz.underlying21
 a21:=Tryz.isAgg21
 z21:=Tryz.sizeOf21
 v21:=Tryz.zeroValue21
 t37:=Tryz.underlying53
 a37:=Tryz.isAgg53
 z37:=Tryz.sizeOf53
 v37:=Tryz.zeroValue53
 t46:=Tryz.underlying138
 a46:=Tryz.isAgg138
 z46:=Tryz.sizeOf138
 v46:=Tryz.zeroValue138
 t51:=Tryz.underlying154
 a51:=Tryz.isAgg154
 z51:=Tryz.sizeOf154
 v51:=Tryz.zeroValue154
 t53:=Tryz.underlying200
 a53:=Tryz.isAgg200
 z53:=Tryz.sizeOf200
 v53:=Tryz.zeroValue200
 t75:=Tryz.underlying183
 a75:=Tryz.isAgg183
 z75:=Tryz.sizeOf183
 v75:=Tryz.zeroValue183
 t76:=Tryz.underlying184
 a76:=Tryz.isAgg184
 z76:=Tryz.sizeOf184
 v76:=Tryz.zeroValue184
 t85:=Tryz.underlying195
 a85:=Tryz.isAgg195
 z85:=Tryz.sizeOf195
 v85:=Tryz.zeroValue195
 t127:=Tryz.underlying208
 a127:=Tryz.isAgg208
 z127:=Tryz.sizeOf208
 v127:=Tryz.zeroValue208
 t143:=Tryz.underlying209
 a143:=Tryz.isAgg209
 z143:=Tryz.sizeOf209
 v143:=Tryz.zeroValue209
 t145:=Tryz.underlying211
 a145:=Tryz.isAgg211
 z145:=Tryz.sizeOf211
 v145:=Tryz.zeroValue211
 t167:=Tryz.underlying194
 a167:=Tryz.isAgg194
 z167:=Tryz.sizeOf194
 v167:=Tryz.zeroValue194
 t168:=Tryz.underlying197
 a168:=Tryz.isAgg197
 z168:=Tryz.sizeOf197
 v168:=Tryz.zeroValue197
 t171:=Tryz.underlying213
 a171:=Tryz.isAgg213
 z171:=Tryz.sizeOf213
 v171:=Tryz.zeroValue213
 t173:=Tryz.underlying216
 a173:=Tryz.isAgg216
 z173:=Tryz.sizeOf216
 v173:=Tryz.zeroValue216
 t175:=Tryz.underlying201
 a175:=Tryz.isAgg201
 z175:=Tryz.sizeOf201
 v175:=Tryz.zeroValue201
 t210:=Tryz.underlying204
 a210:=Tryz.isAgg204
 z210:=Tryz.sizeOf204
 v210:=Tryz.zeroValue204
 t212:=Tryz.underlying219
 a212:=Tryz.isAgg219
 z212:=Tryz.sizeOf219
 v212:=Tryz.zeroValue219
 t213:=Tryz.underlying220
 a213:=Tryz.isAgg220
 z213:=Tryz.sizeOf220
 t232:=Tryz.underlying224
 a232:=Tryz.isAgg224
 z232:=Tryz.sizeOf224
 v232:=Tryz.zeroValue224
 t233:=Tryz.underlying225
 a233:=Tryz.isAgg225
 z233:=Tryz.sizeOf225
 v233:=Tryz.zeroValue225
 g15:=by kernel_rfl
 g16:=by kernel_rfl
 g17:=by kernel_rfl
 g18:=by kernel_rfl
 g19:=by kernel_rfl}
open Go.RowKit in
theorem Tryz.strconv_Atoi (s:ByteArray) (n:Int) (hl:s.size<=18) (h:Lib.atoi s.data.toList=some n) (w:World):
    Calls Tryz.prog 183 #[.string s] w fun e w'=>e= .returned (.tuple #[.int .i64 n,.nilIface])/\ ∃t,w'=Lib.bytesWorld w 5 t:=Any.strconv_Atoi Tryz.m_ s n hl h w
def Tryz.WR:Go.Shelf.Ren:=⟨fun|217=>61|266=>89|n=>n,fun|9=>9|5=>5|3=>3|n=>n,fun|n=>n⟩
theorem Tryz.nA:Go.Proofs.Lays.n217 Tryz.prog Tryz.WR:= {
 mixed:=by kernel_rfl
 f217:=Tryz.func61.trans (congrArg some (by kernel_rfl))
 f266:=Tryz.func89.trans (congrArg some (by kernel_rfl))
 t3:=Tryz.underlying3
 a3:=Tryz.isAgg3
 z3:=Tryz.sizeOf3
 v3:=Tryz.zeroValue3
 t5:=Tryz.underlying5
 a5:=Tryz.isAgg5
 z5:=Tryz.sizeOf5
 v5:=Tryz.zeroValue5
 t9:=Tryz.underlying9
 a9:=Tryz.isAgg9
 z9:=Tryz.sizeOf9
 v9:=Tryz.zeroValue9}
open Go.RowKit Go.Lib in
theorem Tryz.stringslite_IndexByte (s:ByteArray) (c:Int) (w:World):
    Calls Tryz.prog 61 #[.string s,.int .u8 c] w fun e w'=>e= .returned (.int .i64 (Lib.indexByte s.data.toList c.toNat.toUInt8))/\w'=w:=Any.stringslite_IndexByte Tryz.nA s c w
def Tryz.WS:Go.Shelf.Ren:=⟨fun|219=>94|217=>61|225=>124|224=>125|267=>126|266=>89|314=>146|n=>n,fun|9=>9|3=>3|4=>4|5=>5|46=>138|146=>155|51=>154|n=>n,fun|1=>0|n=>n⟩
theorem Tryz.nC:Go.Proofs.Lays.n219 Tryz.prog Tryz.WS:= {
 mixed:=by kernel_rfl
 f217:=Tryz.func61.trans (congrArg some (by kernel_rfl))
 f219:=Tryz.func94.trans (congrArg some (by kernel_rfl))
 f224:=Tryz.func125.trans (congrArg some (by kernel_rfl))
 f225:=Tryz.func124.trans (congrArg some (by kernel_rfl))
 f266:=Tryz.func89.trans (congrArg some (by kernel_rfl))
 f267:=Tryz.func126.trans (congrArg some (by kernel_rfl))
 f314:=Tryz.func146.trans (congrArg some (by kernel_rfl))
 t3:=Tryz.underlying3
 a3:=Tryz.isAgg3
 z3:=Tryz.sizeOf3
 v3:=Tryz.zeroValue3
 t4:=Tryz.underlying4
 a4:=Tryz.isAgg4
 z4:=Tryz.sizeOf4
 v4:=Tryz.zeroValue4
 t5:=Tryz.underlying5
 a5:=Tryz.isAgg5
 z5:=Tryz.sizeOf5
 v5:=Tryz.zeroValue5
 t9:=Tryz.underlying9
 a9:=Tryz.isAgg9
 z9:=Tryz.sizeOf9
 v9:=Tryz.zeroValue9
 t46:=Tryz.underlying138
 a46:=Tryz.isAgg138
 z46:=Tryz.sizeOf138
 v46:=Tryz.zeroValue138
 t51:=Tryz.underlying154
 a51:=Tryz.isAgg154
 z51:=Tryz.sizeOf154
 v51:=Tryz.zeroValue154
 t146:=Tryz.underlying155
 a146:=Tryz.isAgg155
 z146:=Tryz.sizeOf155
 v146:=Tryz.zeroValue155
 g1:=by kernel_rfl}
open Go.RowKit Go.Lib in
theorem Tryz.stringslite_Index_one (s:ByteArray) (c:UInt8) (w:World):
    Calls Tryz.prog 94 #[.string s,.string ⟨#[c]⟩] w fun e w'=>e= .returned (.int .i64 (Lib.indexByte s.data.toList c))/\w'=w:=Any.stringslite_Index_one Tryz.nC s c w
def Tryz.WT:Go.Shelf.Ren:=⟨fun|144=>49|143=>81|219=>94|217=>61|225=>124|224=>125|267=>126|266=>89|314=>146|n=>n,fun|9=>9|4=>4|3=>3|5=>5|46=>138|146=>155|51=>154|n=>n,fun|1=>0|n=>n⟩
theorem Tryz.nD:Go.Proofs.Lays.n144 Tryz.prog Tryz.WT:= {
 mixed:=by kernel_rfl
 f143:=Tryz.func81.trans (congrArg some (by kernel_rfl))
 f144:=Tryz.func49.trans (congrArg some (by kernel_rfl))
 f217:=Tryz.func61.trans (congrArg some (by kernel_rfl))
 f219:=Tryz.func94.trans (congrArg some (by kernel_rfl))
 f224:=Tryz.func125.trans (congrArg some (by kernel_rfl))
 f225:=Tryz.func124.trans (congrArg some (by kernel_rfl))
 f266:=Tryz.func89.trans (congrArg some (by kernel_rfl))
 f267:=Tryz.func126.trans (congrArg some (by kernel_rfl))
 f314:=Tryz.func146.trans (congrArg some (by kernel_rfl))
 t3:=Tryz.underlying3
 a3:=Tryz.isAgg3
 z3:=Tryz.sizeOf3
 v3:=Tryz.zeroValue3
 t4:=Tryz.underlying4
 a4:=Tryz.isAgg4
 z4:=Tryz.sizeOf4
 v4:=Tryz.zeroValue4
 t5:=Tryz.underlying5
 a5:=Tryz.isAgg5
 z5:=Tryz.sizeOf5
 v5:=Tryz.zeroValue5
 t9:=Tryz.underlying9
 a9:=Tryz.isAgg9
 z9:=Tryz.sizeOf9
 v9:=Tryz.zeroValue9
 t46:=Tryz.underlying138
 a46:=Tryz.isAgg138
 z46:=Tryz.sizeOf138
 v46:=Tryz.zeroValue138
 t51:=Tryz.underlying154
 a51:=Tryz.isAgg154
 z51:=Tryz.sizeOf154
 v51:=Tryz.zeroValue154
 t146:=Tryz.underlying155
 a146:=Tryz.isAgg155
 z146:=Tryz.sizeOf155
 v146:=Tryz.zeroValue155
 g1:=by kernel_rfl}
open Go.RowKit Go.Lib in
theorem Tryz.strings_Contains_one (s:ByteArray) (c:UInt8) (w:World):
    Calls Tryz.prog 49 #[.string s,.string ⟨#[c]⟩] w fun e w'=>e= .returned (.bool (decide (0<=Lib.indexByte s.data.toList c)))/\w'=w:=Any.strings_Contains_one Tryz.nD s c w
def Tryz.WU:Go.Shelf.Ren:=⟨fun|145=>40|220=>70|219=>94|217=>61|225=>124|224=>125|267=>126|266=>89|314=>146|n=>n,fun|9=>9|4=>4|59=>70|3=>3|5=>5|46=>138|146=>155|51=>154|n=>n,fun|1=>0|n=>n⟩
theorem Tryz.nE:Go.Proofs.Lays.n145 Tryz.prog Tryz.WU:= {
 mixed:=by kernel_rfl
 f145:=Tryz.func40.trans (congrArg some (by kernel_rfl))
 f217:=Tryz.func61.trans (congrArg some (by kernel_rfl))
 f219:=Tryz.func94.trans (congrArg some (by kernel_rfl))
 f220:=Tryz.func70.trans (congrArg some (by kernel_rfl))
 f224:=Tryz.func125.trans (congrArg some (by kernel_rfl))
 f225:=Tryz.func124.trans (congrArg some (by kernel_rfl))
 f266:=Tryz.func89.trans (congrArg some (by kernel_rfl))
 f267:=Tryz.func126.trans (congrArg some (by kernel_rfl))
 f314:=Tryz.func146.trans (congrArg some (by kernel_rfl))
 t3:=Tryz.underlying3
 a3:=Tryz.isAgg3
 z3:=Tryz.sizeOf3
 v3:=Tryz.zeroValue3
 t4:=Tryz.underlying4
 a4:=Tryz.isAgg4
 z4:=Tryz.sizeOf4
 v4:=Tryz.zeroValue4
 t5:=Tryz.underlying5
 a5:=Tryz.isAgg5
 z5:=Tryz.sizeOf5
 v5:=Tryz.zeroValue5
 t9:=Tryz.underlying9
 a9:=Tryz.isAgg9
 z9:=Tryz.sizeOf9
 v9:=Tryz.zeroValue9
 t46:=Tryz.underlying138
 a46:=Tryz.isAgg138
 z46:=Tryz.sizeOf138
 v46:=Tryz.zeroValue138
 t51:=Tryz.underlying154
 a51:=Tryz.isAgg154
 z51:=Tryz.sizeOf154
 v51:=Tryz.zeroValue154
 t59:=Tryz.underlying70
 a59:=Tryz.isAgg70
 z59:=Tryz.sizeOf70
 v59:=Tryz.zeroValue70
 t146:=Tryz.underlying155
 a146:=Tryz.isAgg155
 z146:=Tryz.sizeOf155
 v146:=Tryz.zeroValue155
 g1:=by kernel_rfl}
open Go.RowKit Go.Lib in
theorem Tryz.strings_Cut (s sep:ByteArray) (m:Int) (w:World) (hs:s.size<4294967281) (hm:w.cell? ⟨0,0,none⟩=some (.int .i64 m)):
    Calls Tryz.prog 40 #[.string s,.string sep] w fun e w'=>e= .returned (.tuple #[.string ⟨(Lib.cut s.data.toList sep.data.toList).1.toArray⟩,.string ⟨(Lib.cut s.data.toList sep.data.toList).2.1.toArray⟩,.bool (Lib.cut s.data.toList sep.data.toList).2.2])/\ ∃n,w'=w.drewN n:=Any.strings_Cut Tryz.nE s sep m w hs hm
def Tryz.WV:Go.Shelf.Ren:=⟨fun|138=>168|195=>177|218=>178|143=>81|219=>94|217=>61|225=>124|224=>125|267=>126|266=>89|314=>146|n=>n,fun|9=>9|3=>3|4=>4|5=>5|0=>0|46=>138|146=>155|51=>154|n=>n,fun|1=>0|n=>n⟩
theorem Tryz.nG:Go.Proofs.Lays.n138 Tryz.prog Tryz.WV:= {
 mixed:=by kernel_rfl
 f138:=Tryz.func168.trans (congrArg some (by kernel_rfl))
 f143:=Tryz.func81.trans (congrArg some (by kernel_rfl))
 f195:=Tryz.func177.trans (congrArg some (by kernel_rfl))
 f217:=Tryz.func61.trans (congrArg some (by kernel_rfl))
 f218:=Tryz.func178.trans (congrArg some (by kernel_rfl))
 f219:=Tryz.func94.trans (congrArg some (by kernel_rfl))
 f224:=Tryz.func125.trans (congrArg some (by kernel_rfl))
 f225:=Tryz.func124.trans (congrArg some (by kernel_rfl))
 f266:=Tryz.func89.trans (congrArg some (by kernel_rfl))
 f267:=Tryz.func126.trans (congrArg some (by kernel_rfl))
 f314:=Tryz.func146.trans (congrArg some (by kernel_rfl))
 t0:=Tryz.underlying0
 a0:=Tryz.isAgg0
 z0:=Tryz.sizeOf0
 v0:=Tryz.zeroValue0
 t3:=Tryz.underlying3
 a3:=Tryz.isAgg3
 z3:=Tryz.sizeOf3
 v3:=Tryz.zeroValue3
 t4:=Tryz.underlying4
 a4:=Tryz.isAgg4
 z4:=Tryz.sizeOf4
 v4:=Tryz.zeroValue4
 t5:=Tryz.underlying5
 a5:=Tryz.isAgg5
 z5:=Tryz.sizeOf5
 v5:=Tryz.zeroValue5
 t9:=Tryz.underlying9
 a9:=Tryz.isAgg9
 z9:=Tryz.sizeOf9
 v9:=Tryz.zeroValue9
 t46:=Tryz.underlying138
 a46:=Tryz.isAgg138
 z46:=Tryz.sizeOf138
 v46:=Tryz.zeroValue138
 t51:=Tryz.underlying154
 a51:=Tryz.isAgg154
 z51:=Tryz.sizeOf154
 v51:=Tryz.zeroValue154
 t146:=Tryz.underlying155
 a146:=Tryz.isAgg155
 z146:=Tryz.sizeOf155
 v146:=Tryz.zeroValue155
 g1:=by kernel_rfl}
open Go.RowKit Go.Lib in
theorem Tryz.strings_Count_one (s:ByteArray) (c:UInt8) (w:World):
    Calls Tryz.prog 168 #[.string s,.string ⟨#[c]⟩] w fun e w'=>e= .returned (.int .i64 (Lib.countByte s.data.toList c))/\w'=w:=Any.strings_Count_one Tryz.nG s c w
def Tryz.Yl:Go.Shelf.Ren:=⟨fun|99=>39|206=>69|n=>n,fun|9=>9|4=>4|3=>3|n=>n,fun|n=>n⟩
theorem Tryz.qj:Go.Proofs.Lays.n99 Tryz.prog Tryz.Yl:= {
 mixed:=by kernel_rfl
 f99:=Tryz.func39.trans (congrArg some (by kernel_rfl))
 f206:=Tryz.func69.trans (congrArg some (by kernel_rfl))
 t3:=Tryz.underlying3
 a3:=Tryz.isAgg3
 z3:=Tryz.sizeOf3
 v3:=Tryz.zeroValue3
 t4:=Tryz.underlying4
 a4:=Tryz.isAgg4
 z4:=Tryz.sizeOf4
 v4:=Tryz.zeroValue4
 t9:=Tryz.underlying9
 a9:=Tryz.isAgg9
 z9:=Tryz.sizeOf9
 v9:=Tryz.zeroValue9}
open Go.RowKit Go.Lib in
theorem Tryz.strings_HasPrefix (s p:ByteArray) (w:World):
    Calls Tryz.prog 39 #[.string s,.string p] w fun e w'=>e= .returned (.bool (Lib.hasPrefix s.data.toList p.data.toList))/\w'=w:=Any.strings_HasPrefix Tryz.qj s p w
def Tryz.WW:Go.Shelf.Ren:=⟨fun|102=>21|209=>42|207=>71|n=>n,fun|9=>9|4=>4|3=>3|n=>n,fun|n=>n⟩
theorem Tryz.nH:Go.Proofs.Lays.n102 Tryz.prog Tryz.WW:= {
 mixed:=by kernel_rfl
 f102:=Tryz.func21.trans (congrArg some (by kernel_rfl))
 f207:=Tryz.func71.trans (congrArg some (by kernel_rfl))
 f209:=Tryz.func42.trans (congrArg some (by kernel_rfl))
 t3:=Tryz.underlying3
 a3:=Tryz.isAgg3
 z3:=Tryz.sizeOf3
 v3:=Tryz.zeroValue3
 t4:=Tryz.underlying4
 a4:=Tryz.isAgg4
 z4:=Tryz.sizeOf4
 v4:=Tryz.zeroValue4
 t9:=Tryz.underlying9
 a9:=Tryz.isAgg9
 z9:=Tryz.sizeOf9
 v9:=Tryz.zeroValue9}
open Go.RowKit Go.Lib in
theorem Tryz.strings_TrimSuffix (s p:ByteArray) (w:World) (hs:s.size<=9223372036854775807):
    Calls Tryz.prog 21 #[.string s,.string p] w fun e w'=>e= .returned (.string ⟨(Lib.trimSuffix s.data.toList p.data.toList).toArray⟩)/\w'=w:=Any.strings_TrimSuffix Tryz.nH s p w hs
end Go.Proofs
namespace Go.Proofs.YtfgegjinhkgpbaaGreatDoor
set_option maxHeartbeats 4000000
set_option maxRecDepth 100000
open Go.RowKit
open Lib (hid)
namespace Jj
open Go.Shelf Range Ki
open Kit (Au AX BO CL Ae below_draws on)
attribute [local go_sem] Oper.semAt_some
theorem WX (s:ByteArray) (w:World):Calls Tryz.prog 81 #[.string s,.string ⟨#[47]⟩] w fun e w'=>e= .returned (.int .i64 (Lib.indexByte s.data.toList 47))/\ ∃n,w'=w.drewN n:=by
 have H:Hid (∀w:World,Calls Tryz.prog 61 #[.string s,.int .u8 47] w fun e w'=>e= .returned (.int .i64 (Lib.indexByte s.data.toList 47))/\w'=w):=fun w=>Tryz.stringslite_IndexByte s 47 w
 have H2:Hid (∀w:World,Calls Tryz.prog 94 #[.string s,.string ⟨#[47]⟩] w fun e w'=>e= .returned (.int .i64 (Lib.indexByte s.data.toList 47))/\ ∃n,w'=w.drewN n):=by
  show∀w:World,_
  intro w
  cases ht:([47]==s.toList)with
  |true=>
   have e:s.data.toList= [47]:=by rw[<-Lib.toList_data];exact(beq_iff_eq.1 ht).symm
   have e2:Lib.indexByte s.data.toList 47=0:=by rw[e];rfl
   rw[e2]
   clear e e2 H
   go_enter Tryz.func94,Tryz.ntmps94
   go_wp2_with fail
   go_ret
   exact⟨rfl,0,rfl⟩
  |false=>
   generalize Lib.indexByte s.data.toList 47=r at*
   go_enter Tryz.func94,Tryz.ntmps94
   go_wp2_with fail
   refine Calls.mono (H.out _) ?_
   rintro e w1 ⟨rfl,rfl⟩
   go_wp2_with fail
   go_ret
   exact⟨rfl,0,rfl⟩
 generalize Lib.indexByte s.data.toList 47=r at*
 go_enter Tryz.func81,Tryz.ntmps81
 go_wp2_with fail
 refine(H2.out _).mono ?_
 rintro e w1 ⟨rfl,n,rfl⟩
 go_wp2_with fail
 go_ret
 exact⟨rfl,n,rfl⟩
def FH (b:Nat):Array Value:= #[.pointer (some ⟨b+1,0,none⟩),.pointer (some ⟨b,0,none⟩),.pointer (some ⟨b+2,0,none⟩)]
def three (w:World) (s:ByteArray):World:=((w.alloc (.cells #[.string s] 9)).alloc (.cells #[.string ⟨#[47]⟩] 9)).alloc (.cells #[.int .i64 0] 3)
theorem WY (s:ByteArray) (w:World):Calls Tryz.prog 143 #[.string s,.string ⟨#[47]⟩] w fun e w'=>e= .returned (.func (.func 169) #[] (FH w.heap.size))/\w'=three w s:=by
 have H:Hid (∀w:World,Calls Tryz.prog 159 #[.string s,.string ⟨#[47]⟩,.int .i64 0] w fun e w'=>e= .returned (.func (.func 169) #[] (FH w.heap.size))/\w'=three w s):=by
  show∀w:World,_
  intro w
  go_enter Tryz.func159,Tryz.ntmps159
  go_wp2_with fail
  go_ret
  exact⟨rfl,rfl⟩
 go_enter Tryz.func143,Tryz.ntmps143
 go_wp2_with fail
 refine(H.out _).mono ?_
 rintro e w1 ⟨rfl,rfl⟩
 go_wp2_with fail
 go_ret
 exact⟨rfl,rfl⟩
def U3 (b:Nat) (W:World):Nat:=match W.cell? ⟨b,0,none⟩with
 |some (.string r)=>r.size
 |_=>0
theorem Gh {b:Nat} {W:World} {r:ByteArray} (h:W.cell? ⟨b,0,none⟩=some (.string r)):U3 b W=r.size:=by unfold U3;rw[h]
def Three (b k:Nat):Prop:=b<=k/\k<b+3
theorem bU (b:Nat) (s:ByteArray) (hs:s.size<=281474976710656) (w0:World) (c0:w0.cell? ⟨b,0,none⟩=some (.string s)) (f0:w0.frozen? ⟨b,0,none⟩=false)
    (c1:w0.cell? ⟨b+1,0,none⟩=some (.string ⟨#[47]⟩)) (c2:w0.cell? ⟨b+2,0,none⟩=some (.int .i64 0)) (hb:b+2<w0.heap.size):
    Seq Tryz.prog 169 (FH b) (fun x:ByteArray=> .string x) (Three b) 0 (Du s) w0:=by
 intro l J Jx W hW hJ hJx hY h0
 replace c0:W.cell? ⟨b,0,none⟩=some (.string s):=(hW.cell (p:=⟨b,0,none⟩) (by simp;omega)).trans c0
 replace f0:W.frozen? ⟨b,0,none⟩=false:=(World.frozen?_of_block (hW.block _ (by simp;omega))).trans f0
 replace c1:W.cell? ⟨b+1,0,none⟩=some (.string ⟨#[47]⟩):=(hW.cell (p:=⟨b+1,0,none⟩) (by simp;omega)).trans c1
 replace c2:W.cell? ⟨b+2,0,none⟩=some (.int .i64 0):=(hW.cell (p:=⟨b+2,0,none⟩) (by simp;omega)).trans c2
 have HI:=hid WX
 refine(callsIn_wide (n:=9)).1 ?_
 refine callsIn_of_wp Tryz.func169 rfl trivial ?_ rfl
 simp only[Tryz.ntmps169,FH,List.size_toArray,List.length_cons,List.length_nil,Nat.reduceAdd,Nat.reduceSub,Array.replicate_succ,Array.replicate_zero,List.push_toArray,List.append_toArray,List.nil_append,List.cons_append]
 gi_wp2
 gi_loopw [7,8] (fun i f wr=> ∃(pre:List ByteArray) (r:ByteArray),Hid (pre++Du r=Du s)/\Hid (J pre wr)/\r.size<=s.size/\W.heap.size<=wr.heap.size/\
     wr.cell? ⟨b,0,none⟩=some (.string r)/\wr.frozen? ⟨b,0,none⟩=false/\wr.cell? ⟨b+1,0,none⟩=some (.string ⟨#[47]⟩)/\wr.cell? ⟨b+2,0,none⟩=some (.int .i64 0)) (fun _ _ wr=>U3 b wr)
 case atStart=>exact⟨[],s,rfl,h0,Nat.le_refl _,Nat.le_refl _,c0,f0,c1,c2⟩
 case round=>
  obtain⟨pre,r,hp,hj,hr,hsz,d0,g0,d1,d2⟩:=hrel
  clear c0 f0 c1 c2 h0
  rcases WL r with⟨hi,hq⟩|⟨k,hi,hk,hq⟩
  ·have HI2:=hid (HI.out r)
   rw[hi]at HI2
   gi_wp2
   refine⟨trivial,?_⟩
   gi_at_call 81
   refine(callsIn_wide.2 (HI2.out _)).mono ?_
   rintro e w' ⟨rfl,m,rfl⟩
   have hpre:pre++ [r]=Du s:=by rw[<-hp.out,hq]
   obtain⟨fn,tmps,assign,body,hy,hR⟩:=hY pre r (wr.drewN m) (hJ _ _ _ hj.out (AP.draw _ _ _)) hsz (by rw[hpre];exact List.prefix_refl _)
   clear hY
   gi_wp2
   refine(FY _ hR).mono ?_
   rintro e W3 (⟨rfl,hJ3,-⟩|⟨rfl,hJx3,-⟩)
   ·gi_wp2
    go_end0
    exact⟨⟨_,rfl⟩,.inl (by rw[<-hpre];exact hJ3)⟩
   gi_wp2
   go_end0
   exact⟨⟨_,rfl⟩,.inr ⟨_,by rw[hpre];exact List.prefix_refl _,hJx3⟩⟩
  have HI2:=hid (HI.out r)
  rw[hi]at HI2
  gi_wp2
  refine⟨trivial,?_⟩
  gi_at_call 81
  refine(callsIn_wide.2 (HI2.out _)).mono ?_
  rintro e w' ⟨rfl,m,rfl⟩
  have hpre:(pre++ [r.extract 0 k])++Du (r.extract (k+1) r.size)=Du s:=by rw[List.append_assoc,List.singleton_append,<-hq];exact hp.out
  obtain⟨fn,tmps,assign,body,hy,hR⟩:=hY pre (r.extract 0 k) (wr.drewN m) (hJ _ _ _ hj.out (AP.draw _ _ _)) hsz ⟨_,hpre⟩
  gi_wp2
  refine(FY _ hR).mono ?_
  rintro e W3 (⟨rfl,hJ3,hk3⟩|⟨rfl,hJx3,-⟩)
  ·have e0:=Gh d0
   have own: ∀i,b<=i->i<b+3-> ¬ ¬Its (Three b) W.heap.size 0 i:=fun i h1 h2 h=>h (Or.inl ⟨h1,h2⟩)
   have f3:W3.frozen? ⟨b,0,none⟩=false:=(hk3.frozen (a:=⟨b,0,none⟩) d0 (own b (Nat.le_refl _) (by omega))).trans g0
   replace d0:W3.cell? ⟨b,0,none⟩=some (.string r):=hk3.cell (a:=⟨b,0,none⟩) d0 (own b (Nat.le_refl _) (by omega))
   replace d1:W3.cell? ⟨b+1,0,none⟩=some (.string ⟨#[47]⟩):=hk3.cell (a:=⟨b+1,0,none⟩) d1 (own (b+1) (by omega) (by omega))
   replace d2:W3.cell? ⟨b+2,0,none⟩=some (.int .i64 0):=hk3.cell (a:=⟨b+2,0,none⟩) d2 (own (b+2) (by omega) (by omega))
   have hs3:W.heap.size<=W3.heap.size:=Nat.le_trans hsz hk3.size
   clear hY hR hy own
   gi_wp2
   go_roundw
   case rel=>
    refine⟨pre++ [r.extract 0 k],r.extract (k+1) r.size,hpre,?_,?_,?_,?_,?_,?_,?_⟩
    ·exact hJ _ _ _ hJ3 (AP.setCell _ (Or.inl ⟨Nat.le_refl _,by simp⟩))
    ·rw[ByteArray.size_extract];omega
    ·simpa using hs3
    ·exact World.cell?_setCell_same' _ _ _ (by rw[d0];rfl)
    ·rw[World.frozen?_setCell];exact f3
    ·exact(NT W3 ⟨b,0,none⟩ _).cell d1 (by simp)
    exact(NT W3 ⟨b,0,none⟩ _).cell d2 (by simp)
   case measure=>
    rw[e0,Gh (World.cell?_setCell_same' _ _ _ (by rw[d0];rfl)),ByteArray.size_extract]
    omega
  gi_wp2
  refine bodyPost_ret (results_none rfl _ _ _) rfl ?_
  exact⟨⟨_,rfl⟩,.inr ⟨_,⟨_,hpre⟩,hJx3⟩⟩
end Jj
namespace Strs
theorem block_add (a:Addr) (n:Nat):(a.add n).block=a.block:=by unfold Addr.add;split<;>rfl
def D6 (l:List UInt8):Value:= .string ⟨l.toArray⟩
def Bc (B:Nat) (w:World) (v:Value) (L:List (List UInt8)):Prop:=
 ∃(A:Option Addr) (c:Nat),v= .slice A L.length c/\L.length<=c/\c<=maxLen/\
  (0<L.length-> ∃ad,A=some ad/\ad.block<B/\ ∀k,k<L.length->w.cell? (ad.add k)=some (D6 (L.getD k [])))
section
variable {B B':Nat} {w w':World} {v:Value} {L:List (List UInt8)}
theorem Bc.keep (h:Bc B w v L) (hk: ∀p:Addr,p.block<B->w'.cell? p=w.cell? p):Bc B w' v L:=by
 obtain⟨A,c,e,h1,h2,h3⟩:=h
 exact⟨A,c,e,h1,h2,fun hn=>by
  obtain⟨ad,e2,hb,hc⟩:=h3 hn
  exact⟨ad,e2,hb,fun k hk2=>(hk _ (by rw[block_add];exact hb)).trans (hc k hk2)⟩⟩
theorem Bc.more (h:Bc B w v L) (hB:B<=B'):Bc B' w v L:=by
 obtain⟨A,c,e,h1,h2,h3⟩:=h
 exact⟨A,c,e,h1,h2,fun hn=>by
  obtain⟨ad,e2,hb,hc⟩:=h3 hn
  exact⟨ad,e2,by omega,hc⟩⟩
theorem Bc.below (h:Bc B w v L) (hb:Below B w w'):Bc B w' v L:=h.keep fun _ hp=>hb.cell hp
theorem Bc.drewN (h:Bc B w v L) (k:Nat):Bc B (w.drewN k) v L:=h
theorem Bc.form (h:Bc B w v L): ∃A c,v= .slice A L.length c/\L.length<=c/\c<=maxLen:=by
 obtain⟨A,c,e,h1,h2,h3⟩:=h
 exact⟨A,c,e,h1,h2⟩
theorem Bc.at_ {A:Option Addr} {n c:Nat} (h:Bc B w (.slice A n c) L) {k:Nat} (hk:k<n): ∃ad s,A=some ad/\ad.block<B/\w.cell? (ad.add k)=some (.string s)/\s.data.toList=L.getD k []:=by
 obtain⟨A',c',e,h1,h2,h3⟩:=h
 injection e with e1 e2 e3
 subst e1 e2 e3
 obtain⟨ad,e2,hb,hc⟩:=h3 (by omega)
 exact⟨ad,_,e2,hb,hc k hk,rfl⟩
theorem KL (B:Nat) (w:World):Bc B w (.slice none 0 0) []:=⟨none,0,rfl,Nat.le_refl _,Nat.zero_le _,fun h=>absurd h (by simp)⟩
theorem Bc.Bw {base:Nat} {e:TypeId} {n:Nat} (h:w.ownsRow base e 1 v n (L.map D6)):Bc w.heap.size w v L:=by
 have hl:n=L.length:=by have:=h.1;simpa using this.symm
 subst hl
 rcases h.2 with⟨rfl,h0⟩|⟨g,cap,cur,rfl,hg,hh,hn,hcap,hsz,htk⟩
 ·have:L= []:=by simpa using h0
  subst this
  exact KL _ _
 refine⟨_,_,rfl,by omega,by omega,fun hn0=>⟨_,rfl,?_,fun k hk=> ?_⟩⟩
 ·rcases Nat.lt_or_ge g w.heap.size with hlt|hge
  ·exact hlt
  rw[Array.getElem?_eq_none hge]at hh;cases hh
 have:=h.cells (g:=g) rfl k (D6 (L.getD k [])) (by rw[List.getElem?_map,List.getElem?_eq_getElem hk];simp[hk])
 exact this
end
end Strs
namespace Strs
open Kit (Ae)
theorem IZ:(Tryz.prog.info? 9).map (fun i=>(i.zero,i.size,i.bytes))=some (some (.string ⟨#[]⟩),1,16):=by kernel_rfl
theorem Ia {w:World} {base:Nat} {v:Value} {out:List (List UInt8)} {now:ByteArray} (h:w.ownsRow base 9 1 v (out.length+1) (out.map D6++ [.string now])):w.ownsRow base 9 1 v (out++ [now.data.toList]).length ((out++ [now.data.toList]).map D6):=by
 have e:(out++ [now.data.toList]).map D6=out.map D6++ [.string now]:=by
  rw[List.map_append]
  show _++ [D6 now.data.toList]=_
  unfold D6
  rw[Ae]
 rw[e,List.length_append]
 exact h
theorem Gn {w wr w1:World} {o:Obj} {v:Value} {n:Nat} {xs:List Value} {e:TypeId} (hb:Below w.heap.size w wr) (hown:wr.ownsRow w.heap.size e 1 v n xs) (hg:(wr.alloc o).grownBy w1 v.ownBlock):Below w.heap.size w w1:=
 (hb.alloc hb.size o).grown hg (by have:=hb.size;simp;omega) (fun k hk=>(hown.lt k hk).1)
theorem gX {w:World} {base:Nat} {e:TypeId} {v:Value} {n:Nat} {xs:List Value} (h:w.ownsRow base e 1 v (n+1) xs): ∃g c,v= .slice (some ⟨g,0,none⟩) (n+1) c/\n+1<=c/\c<=maxLen/\w.ownsRow base e 1 (.slice (some ⟨g,0,none⟩) n c) n (xs.take n):=by
 obtain⟨hl,hr⟩:=h
 rcases hr with⟨_,h0⟩|⟨g,cap,cur,rfl,hg,hh,hn,hcap,hsz,htk⟩
 ·omega
 refine⟨g,cap,rfl,hn,hcap,by rw[List.length_take];omega,Or.inr ⟨g,cap,cur,rfl,hg,hh,by omega,hcap,hsz,?_⟩⟩
 rw[<-htk,List.take_take]
 congr 1;omega
end Strs
namespace Jj
open Go.Shelf Range Ki
open Kit (Au AX BO CL Ae below_draws on)
attribute [local go_sem] Oper.semAt_some
theorem gY (s:ByteArray) (w:World):Calls Tryz.prog 117 #[.string s] w fun e w'=>e= .returned (.func (.func 142) #[] #[.pointer (some ⟨w.heap.size,0,none⟩)])/\w'=w.alloc (.cells #[.string s] 9):=by
 go_enter Tryz.func117,Tryz.ntmps117
 go_wp2_with fail
 go_ret
 exact⟨rfl,rfl⟩
theorem MI (W:World) (v:Value) (t:TypeId):(W.alloc (.cells #[v] t)).cell? ⟨W.heap.size,0,none⟩=some v/\(W.alloc (.cells #[v] t)).frozen? ⟨W.heap.size,0,none⟩=false:=by
 exact⟨(Boxed.new W t v).cell,(Boxed.new W t v).frozen⟩
theorem WZ (w:World) (s:ByteArray):(three w s).cell? ⟨w.heap.size,0,none⟩=some (.string s)/\(three w s).frozen? ⟨w.heap.size,0,none⟩=false/\(three w s).cell? ⟨w.heap.size+1,0,none⟩=some (.string ⟨#[47]⟩)/\(three w s).cell? ⟨w.heap.size+2,0,none⟩=some (.int .i64 0):=by
 have a0:=MI w (.string s) 9
 have a1:=MI (w.alloc (.cells #[.string s] 9)) (.string ⟨#[47]⟩) 9
 have a2:=MI ((w.alloc (.cells #[.string s] 9)).alloc (.cells #[.string ⟨#[47]⟩] 9)) (.int .i64 0) 3
 simp only[World.size_alloc]at a1 a2
 have g1:=World.grownBy_alloc (w.alloc (.cells #[.string s] 9)) (.cells #[.string ⟨#[47]⟩] 9) none
 have g2:=World.grownBy_alloc ((w.alloc (.cells #[.string s] 9)).alloc (.cells #[.string ⟨#[47]⟩] 9)) (.cells #[.int .i64 0] 3) none
 have t1:AP (fun _=>False) (w.alloc (.cells #[.string s] 9)) (three w s):=(AP.alloc _ _ _).trans (AP.alloc _ _ _)
 have t2:AP (fun _=>False) ((w.alloc (.cells #[.string s] 9)).alloc (.cells #[.string ⟨#[47]⟩] 9)) (three w s):=AP.alloc _ _ _
 exact⟨t1.cell a0.1 id,(t1.frozen a0.1 id).trans a0.2,t2.cell a1.1 id,a2.1⟩
theorem U5 {x:ByteArray} (h: ¬0<x.size):Dc x=false:=by unfold Dc keeps;rw[Kit.CX h];rfl
theorem Sj {x:ByteArray} (h:(x.toList== [46])=true):Dc x=false:=by unfold Dc keeps;rw[<-Lib.toList_data,beq_iff_eq.1 h];rfl
theorem Wd {x:ByteArray} (h:0<x.size) (h2:(x.toList== [46])=false):Dc x=true:=by
 unfold Dc keeps
 rw[Lib.toList_data]at h2
 simp only[Bool.and_eq_true]
 refine⟨?_,?_⟩
 ·have:=Kit.Pw h;simpa using this
 simpa using h2
theorem Tt {pre:List ByteArray} {x:ByteArray} (h:Dc x=false):(pre++ [x]).filter Dc=pre.filter Dc:=by rw[List.filter_append,List.filter_cons,if_neg (by simp[h]),List.filter_nil,List.append_nil]
theorem K8 {pre:List ByteArray} {x:ByteArray} (h:Dc x=true):(pre++ [x]).filter Dc=pre.filter Dc++ [x]:=by rw[List.filter_append,List.filter_cons,if_pos h,List.filter_nil]
theorem QG {a b:List ByteArray} (h:a<+:b):a.filter Dc<+:b.filter Dc:=by
 obtain⟨t,rfl⟩:=h
 rw[List.filter_append];exact⟨_,rfl⟩
theorem bV (b:Nat) (s:ByteArray) (hs:s.size<=281474976710656) (w0:World) (c0:w0.cell? ⟨b,0,none⟩=some (.string s)) (hb:b<w0.heap.size):
    Seq Tryz.prog 142 #[.pointer (some ⟨b,0,none⟩)] (fun x:ByteArray=> .string x) (fun _=>False) 6 (partsOf s) w0:=by
 intro l J Jx W hW hJ hJx hY h0
 replace c0:W.cell? ⟨b,0,none⟩=some (.string s):=(hW.cell (p:=⟨b,0,none⟩) hb).trans c0
 have hbW:b<W.heap.size:=Nat.lt_of_lt_of_le hb hW.size
 rw[QE]at*
 have HS:=hid (WY s)
 refine(callsIn_wide (n:=9)).1 ?_
 refine callsIn_of_wp_marks Tryz.func142 rfl trivial ?_ rfl
 simp only[Tryz.ntmps142,List.size_toArray,List.length_cons,List.length_nil,Nat.reduceAdd,Nat.reduceSub,Array.replicate_succ,Array.replicate_zero,List.push_toArray,List.append_toArray,List.nil_append,List.cons_append]
 gi_wp2
 refine⟨trivial,?_⟩
 gi_at_call 143
 refine(callsIn_wide.2 (HS.out _)).mono ?_
 rintro e w1 ⟨rfl,rfl⟩
 gi_wp2
 have b0:=MI W (.func (.yield l) #[] #[]) 31
 obtain⟨V,hV⟩: ∃V,W.alloc (.cells #[.func (.yield l) #[] #[]] 31)=V:=⟨_,rfl⟩
 rw[hV]at b0 ⊢
 have uE:V.heap.size=W.heap.size+1:=by rw[<-hV];simp
 have hVb:Below W.heap.size W V:=by rw[<-hV];exact(Below.refl _ W).alloc (Nat.le_refl _) _
 have d0:=WZ V s
 have hU:(three V s).heap.size=W.heap.size+4:=by unfold three;simp[uE]
 have tV:AP (fun _=>False) V (three V s):=((AP.alloc _ _ _).trans (AP.alloc _ _ _)).trans (AP.alloc _ _ _)
 have tW:AP (fun _=>False) W (three V s):=by rw[<-hV]at *;exact(AP.alloc _ _ _).trans tV
 have b1:=tV.cell b0.1 id
 obtain⟨U,uU⟩: ∃U,three V s=U:=⟨_,rfl⟩
 rw[uU]at d0 hU tW b1 ⊢
 clear uU tV
 refine QF (gf:=169) (lb:=FH (W.heap.size+1)) (by rw[<-uE];rfl) (enters_of Tryz.func169 (by kernel_rfl) rfl)
  (bU (W.heap.size+1) s hs U (by rw[<-uE];exact d0.1) (by rw[<-uE];exact d0.2.1) (by rw[<-uE];exact d0.2.2.1) (by rw[<-uE];exact d0.2.2.2) (by omega)) (by rintro k ⟨_,hk⟩;omega) rfl
  (fun k=>W.heap.size+1<=k/\k<W.heap.size+6) (fun k=>by unfold Its Three;omega)
  (fun pre W'=>J (pre.filter Dc) W'/\W'.cell? ⟨W.heap.size,0,none⟩=some (.func (.yield l) #[] #[]))
  (fun c pre W'=>c= .ret/\Jx (pre.filter Dc) W')
  (fun pre A B h ht=>⟨hJ _ _ _ h.1 (ht.wider fun k hk=>Or.inr (by omega)),ht.cell h.2 (fun h1=>absurd h1.1 (Nat.not_succ_le_self _))⟩)
  (fun c pre A B h ht=>⟨h.1,hJx _ _ _ h.2 (ht.wider fun k hk=>Or.inr (by omega))⟩)
  ⟨hJ _ _ _ h0 (tW.wider fun k hk=>hk.elim),b1⟩
  (fun x=> {tmps:= #[.func (.yield l) #[] #[],.pointer (some ⟨b,0,none⟩),.pointer (some ⟨W.heap.size,0,none⟩),.string x,.string s,.func (.func 169) #[] (FH (W.heap.size+1)),.string x,undef,undef,undef,undef,undef,undef,undef,undef,undef,undef,undef,undef],defers:= []}) ?assign ?body ?done ?stop
 case assign=>
  intro l x W K hK
  gi_wp2
  exact hK
 case body=>
  rintro l' pre x W1 ⟨hj,hc⟩ hsz hpre
  by_cases h0:0<x.size
  ·have hn:=Kit.Bl h0
   have hf:=Kit.Ap h0
   cases hp:(x.toList== [46])with
   |true=>
    have hpe:=beq_iff_eq.1 hp
    gi_wp2
    refine⟨fun _ h=>(by cases h),?_⟩
    gi_wp2
    exact⟨AP.refl _ _,by rw[Tt (Sj hp)];exact hj,hc⟩
   |false=>
    have hk:=Wd h0 hp
    obtain⟨fn,tmps,assign,body,hy,hR⟩:=hY (pre.filter Dc) x W1 hj (by omega) (by rw[<-K8 hk];exact QG hpre)
    clear hY
    gi_wp2
    refine(gW _ _ hR).mono ?_
    rintro e W3 (⟨rfl,hJ3,hk3⟩|⟨rfl,hJx3,hk3⟩)
    ·gi_wp2
     exact⟨hk3.wider fun k h h2=>h (Or.inr ⟨Nat.le_of_succ_le h2.1,h2.2⟩),by rw[K8 hk];exact hJ3,hk3.cell hc (fun h=>h (Or.inr ⟨Nat.le_refl _,by simp⟩))⟩
    gi_wp2
    exact⟨hk3.wider fun k h h2=>h (Or.inr ⟨Nat.le_of_succ_le h2.1,h2.2⟩),rfl,by rw[K8 hk];exact hJx3⟩
  have hn:=Kit.Bb h0
  have hf:=Kit.Az h0
  gi_wp2
  refine⟨fun _ h=>(by cases h),?_⟩
  gi_wp2
  exact⟨AP.refl _ _,by rw[Tt (U5 h0)];exact hj,hc⟩
 case done=>
  rintro W2 ⟨hj,-⟩ hK
  gi_wp2
  refine⟨by simp,.inl ⟨_,_,rfl,run_takeDeferred hK,?_⟩⟩
  exact⟨_,results_none rfl _ _ _,⟨_,rfl⟩,.inl (hJ _ _ _ hj (AP.putObj _ (Or.inr (by omega))))⟩
 case stop=>
  rintro c pre W2 hpre ⟨rfl,hjx⟩ hK
  gi_wp2
  refine⟨by simp,.inl ⟨_,_,rfl,run_takeDeferred hK,?_⟩⟩
  exact⟨_,results_none rfl _ _ _,⟨_,rfl⟩,.inr ⟨_,QG hpre,hJx _ _ _ hjx (AP.putObj _ (Or.inr (by omega)))⟩⟩
end Jj
namespace Jj
open Strs Ki
open Kit (Ay Ci Ae Px one_byte CF EZ GY Ap Bl Az Bb CX Bh)
def Pst (l:Bytes) (k:Nat) (out:List Bytes) (now:Bytes):Prop:=(k<=l.length/\out++pgo (l.drop k) now=parts l)\/(k=l.length+1/\out=parts l)
def Going (s:ByteArray) (k:Nat) (out:List Bytes) (now:ByteArray):Prop:=Pst s.data.toList k out now.data.toList
theorem We (s:ByteArray):Going s 0 [] ⟨#[]⟩:=Or.inl ⟨Nat.zero_le _,rfl⟩
section
variable {s:ByteArray} {k:Nat} {out:List Bytes} {now:ByteArray}
theorem Wh (h:Going s k out now) (hk:k<s.size):out++pgo (s[k]::s.data.toList.drop (k+1)) now.data.toList=parts s.data.toList:=by
 rw[Lib.size_eq]at hk
 rcases h with⟨_,h⟩|⟨h,_⟩
 ·rw[Ay s k (by rw[Lib.size_eq];exact hk)]at h;exact h
 omega
theorem Ym (h:Going s k out now) (hk:k<s.size) (hc: ¬s[k]=47):Going s (k+1) out (now++s.extract k (k+1)):=by
 have:=Wh h hk
 left
 refine⟨by rw[<-Lib.size_eq];omega,?_⟩
 rw[pgo,if_neg hc]at this
 rw[CF,one_byte s k hk];exact this
theorem Wi (h:Going s k out now) (hk:k<s.size) (hc:s[k]=47):Going s (k+1) (out++flush now.data.toList) ⟨#[]⟩:=by
 have:=Wh h hk
 left
 refine⟨by rw[<-Lib.size_eq];omega,?_⟩
 rw[pgo,if_pos hc]at this
 rw[List.append_assoc];exact this
theorem bW (h:Going s k out now) (hk:k=s.size):Going s (k+1) (out++flush now.data.toList) ⟨#[]⟩:=by
 right
 refine⟨by rw[hk,Lib.size_eq],?_⟩
 rcases h with⟨_,h⟩|⟨h,_⟩
 ·rw[hk,Ci s s.size (Nat.lt_irrefl _)]at h;exact h
 rw[Lib.size_eq]at hk;omega
theorem Yn (h:Going s k out now) (hk:s.size<k):out=parts s.data.toList:=by
 rcases h with⟨h,_⟩|⟨_,h⟩
 ·rw[Lib.size_eq]at hk;omega
 exact h
theorem QH (h:0<now.size) (h2:(now.toList== [46])=false):flush now.data.toList= [now.data.toList]:=by
 unfold flush
 rw[if_neg]
 rintro(e|e)
 ·rw[Bh h]at e;simp at e
 rw[Lib.toList_data,e]at h2;simp at h2
theorem QI (h: ¬0<now.size):flush now.data.toList= []:=by unfold flush;rw[if_pos (Or.inl (CX h))]
theorem Od (h2:(now.toList== [46])=true):flush now.data.toList= []:=by
 unfold flush;rw[if_pos (Or.inr (by rw[<-Lib.toList_data];exact beq_iff_eq.1 h2))]
end
def qE (w:World) (L:List Bytes) (e:Ending) (w':World):Prop:= ∃v,e= .returned v/\w'.ownsRow w.heap.size 9 1 v L.length (L.map D6)/\Below w.heap.size w w'
theorem Yo {w w':World} {L out:List Bytes} {v:Value} (h:out=L) (hown:w'.ownsRow w.heap.size 9 1 v out.length (out.map D6)) (hb:Below w.heap.size w w'):qE w L (.returned v) w':=by
 subst h;exact⟨v,rfl,hown,hb⟩
theorem MJ (s:ByteArray) (hs:s.size<=1099511627776) (w:World):
    Calls Tryz.prog 59 #[.string s] w (qE w (parts s.data.toList)):=by
 obtain⟨i0,hi,hz0,hz1,hz2⟩:=info_parts IZ
 go_enter Tryz.func59,Tryz.ntmps59
 go_wp2
 go_loopw [3,4,5] (fun v d i wr=> ∃(k:Nat) (out:List Bytes) (now:ByteArray),k<=s.size+1/\i= .int .i64 k/\d= .string now/\now.size<=k/\out.length<=k/\Hid (Going s k out now)/\Hid (wr.ownsRow w.heap.size 9 1 v out.length (out.map D6))/\Below w.heap.size w wr) (fun _ _ i _=>s.size+1-(intOf i).toNat)
 case atStart=>exact⟨0,[],⟨#[]⟩,Nat.zero_le _,rfl,rfl,Nat.zero_le _,Nat.le_refl _,We s,World.ownsRow_nil _ _ _ _,Below.refl _ _⟩
 case round=>
  obtain⟨k,out,now,hk,rfl,rfl,uV,hout,hg,hown,hb⟩:=hrel
  have hbs:=hb.size
  by_cases hlt:k<s.size
  ·by_cases h47:(s[k].toNat:Int)=47
   ·have HG:=hid (Wi hg.out hlt (EZ (d:=47) h47))
    have t47:((s[k].toNat:Int) !=47)=false:=by simp[h47]
    clear h47
    by_cases h0:0<now.size
    ·have hn:=Bl h0
     have hf:=Ap h0
     cases hp:(now.toList== [46])with
     |true=>
      have HX:Hid (Going s (k+1) out ⟨#[]⟩):=by have:=HG.out;rw[Od hp,List.append_nil]at this;exact this
      have hpe:=beq_iff_eq.1 hp
      go_wp2
      go_roundw
      case rel=>exact⟨k+1,out,⟨#[]⟩,by omega,by go_num,rfl,Nat.zero_le _,by omega,HX,hown,hb⟩
      case measure=>simp[intOf];omega
     |false=>
      have HX:Hid (Going s (k+1) (out++ [now.data.toList]) ⟨#[]⟩):=by have:=HG.out;rw[QH h0 hp]at this;exact this
      have hpe:=beq_eq_false_iff_ne.1 hp
      go_wp2_with (at_builtin;refine wpList_append_own _ rfl (.tmp 35) (.tmp 37) 23 rfl w.heap.size 9 i0 (.string ⟨#[]⟩) 1 16 Tryz.underlying23 hi hz0 hz1 hz2 rfl (by decide) _ _ _ rfl (hown.out.alloc _) ⟨_,0,none⟩ 1 1 [.string now] rfl rfl (cell_one_new _ _ _) (by intro u hu;simp at hu;subst hu;rfl) (by unfold maxLen;omega) (by omega) (by simp;omega) ?_;intro v1 w1 hown1 hgrow1 _)
      have B1:=hid (Gn hb hown.out hgrow1)
      have O1:=hid (Ia hown1)
      clear hown1 hgrow1
      go_wp2
      go_roundw
      case rel=>exact⟨k+1,out++ [now.data.toList],⟨#[]⟩,by omega,by go_num,rfl,Nat.zero_le _,by rw[List.length_append];simp;omega,HX,O1,B1.out⟩
      case measure=>simp[intOf];omega
    have hn:=Bb h0
    have hf:=Az h0
    have HX:Hid (Going s (k+1) out ⟨#[]⟩):=by have:=HG.out;rw[QI h0,List.append_nil]at this;exact this
    go_wp2
    go_roundw
    case rel=>exact⟨k+1,out,⟨#[]⟩,by omega,by go_num,rfl,Nat.zero_le _,by omega,HX,hown,hb⟩
    case measure=>simp[intOf];omega
   have HG:=hid (Ym hg.out hlt (GY (d:=47) h47))
   have t47:((s[k].toNat:Int) !=47)=true:=by simp[h47]
   have h1:=Px s k hlt
   clear h47
   go_wp2
   go_roundw
   case rel=>exact⟨k+1,out,_,by omega,by go_num,rfl,by rw[ByteArray.size_append];omega,by omega,HG,hown,hb⟩
   case measure=>simp[intOf];omega
  by_cases hke:k=s.size
  ·have HG:=hid (bW hg.out hke)
   by_cases h0:0<now.size
   ·have hn:=Bl h0
    have hf:=Ap h0
    cases hp:(now.toList== [46])with
    |true=>
     have HX:Hid (Going s (k+1) out ⟨#[]⟩):=by have:=HG.out;rw[Od hp,List.append_nil]at this;exact this
     have hpe:=beq_iff_eq.1 hp
     go_wp2
     go_roundw
     case rel=>exact⟨k+1,out,⟨#[]⟩,by omega,by go_num,rfl,Nat.zero_le _,by omega,HX,hown,hb⟩
     case measure=>simp[intOf];omega
    |false=>
     have HX:Hid (Going s (k+1) (out++ [now.data.toList]) ⟨#[]⟩):=by have:=HG.out;rw[QH h0 hp]at this;exact this
     have hpe:=beq_eq_false_iff_ne.1 hp
     go_wp2_with (at_builtin;refine wpList_append_own _ rfl (.tmp 35) (.tmp 37) 23 rfl w.heap.size 9 i0 (.string ⟨#[]⟩) 1 16 Tryz.underlying23 hi hz0 hz1 hz2 rfl (by decide) _ _ _ rfl (hown.out.alloc _) ⟨_,0,none⟩ 1 1 [.string now] rfl rfl (cell_one_new _ _ _) (by intro u hu;simp at hu;subst hu;rfl) (by unfold maxLen;omega) (by omega) (by simp;omega) ?_;intro v1 w1 hown1 hgrow1 _)
     have B1:=hid (Gn hb hown.out hgrow1)
     have O1:=hid (Ia hown1)
     clear hown1 hgrow1
     go_wp2
     go_roundw
     case rel=>exact⟨k+1,out++ [now.data.toList],⟨#[]⟩,by omega,by go_num,rfl,Nat.zero_le _,by rw[List.length_append];simp;omega,HX,O1,B1.out⟩
     case measure=>simp[intOf];omega
   have hn:=Bb h0
   have hf:=Az h0
   have HX:Hid (Going s (k+1) out ⟨#[]⟩):=by have:=HG.out;rw[QI h0,List.append_nil]at this;exact this
   go_wp2
   go_roundw
   case rel=>exact⟨k+1,out,⟨#[]⟩,by omega,by go_num,rfl,Nat.zero_le _,by omega,HX,hown,hb⟩
   case measure=>simp[intOf];omega
  have HE:=hid (Yn hg.out (by omega))
  go_wp2
  go_ret
  exact Yo HE.out hown.out hb
end Jj
namespace Jj
open Strs Ki
open Kit (Au CL Ae BM CF Ap Bl Az Bb CX Bh EZ GY below_draws on)
theorem bX {L:List Bytes} {k:Nat} (hk:k<L.length):(L.take (k+1)).flatMap (fun p=>47::p)=(L.take k).flatMap (fun p=>47::p)++47::L.getD k []:=by
 rw[List.take_succ_eq_append_getElem hk,List.flatMap_append]
 simp[hk]
theorem gZ {L:List Bytes} {k:Nat} (hk: ¬k<L.length):(L.take k).flatMap (fun p=>47::p)=L.flatMap (fun p=>47::p):=by rw[List.take_of_length_le (by omega)]
theorem Yp (L:List Bytes) (k:Nat):((L.take k).flatMap (fun p=>47::p)).length<=total L:=by
 rw[Ky]
 conv=>rhs;rw[<-List.take_append_drop k L,FE]
 omega
theorem QJ {L:List Bytes} {k:Nat} (hk:k<L.length):(L.getD k []).length<=total L:=by
 induction L generalizing k with
 |nil=>simp at hk
 |cons p L ih=>
  rw[Ev]
  cases k with
  |zero=>simp;omega
  |succ k=>
   have:=ih (k:=k) (by simpa using hk)
   simp at this ⊢;omega
theorem bZ {L:List Bytes} (h:L≠ []):text L=L.flatMap (fun p=>47::p):=by unfold text;rw[if_neg h]
theorem Tu {L:List Bytes} (h: ¬0<L.length):L= []:=List.length_eq_zero_iff.1 (by omega)
theorem bf {L:List Bytes} (h:0<(L.flatMap (fun p=>47::p)).length):L≠ []:=by rintro rfl;simp at h
theorem Wj (v:Value) (L:List Bytes) (B:Nat) (w:World) (h:Bc B w v L) (hl:total L<=4398046511104):
    Calls Tryz.prog 88 #[v] w fun e w'=>e= .returned (.string ⟨(text L).toArray⟩)/\ ∃n,w'=w.drewN n:=by
 obtain⟨A,c,rfl,hA1,hA2⟩:=h.form
 have H:=hid h
 unfold maxLen at hA2
 clear h
 generalize hm:L.length=n at*
 have HM:=hid hm
 clear hm
 go_enter Tryz.func88,Tryz.ntmps88
 go_wp2
 go_loopw [3,4] (fun d i wr=> ∃(k:Nat) (t:ByteArray),k<=n/\i= .int .i64 k/\d= .string t/\Hid (t.data.toList=(L.take k).flatMap (fun p=>47::p))/\ ∃q,wr=w.drewN q) (fun _ i _=>n-(intOf i).toNat)
 case atStart=>exact⟨0,⟨#[]⟩,Nat.zero_le _,rfl,rfl,rfl,0,rfl⟩
 case round=>
  obtain⟨k,t,hk,rfl,rfl,ht,q,rfl⟩:=hrel
  have hsz:t.size<=4398046511104:=by rw[Lib.size_eq,ht.out];exact Nat.le_trans (Yp L k) hl
  by_cases hlt:k<n
  ·obtain⟨ad,s,rfl,hbl,hc,hs⟩:=H.out.at_ hlt
   have hss:s.size<=4398046511104:=by rw[Lib.size_eq,hs];exact Nat.le_trans (QJ (by rw[HM.out];exact hlt)) hl
   have HT:Hid ((t++(⟨#[47]⟩++s)).data.toList=(L.take (k+1)).flatMap (fun p=>47::p)):=by
    show _=_
    rw[bX (by rw[HM.out];exact hlt),CF,CF,ht.out,hs];rfl
   clear hs
   go_wp2
   go_roundw
   case rel=>exact⟨k+1,_,by omega,by go_num,rfl,HT,q,rfl⟩
   case measure=>simp[intOf];omega
  have HT:=hid (ht.out.trans (gZ (by rw[HM.out];exact hlt)))
  by_cases h0:0<t.size
  ·have hf:=Ap h0
   have hn:=Bl h0
   go_wp2
   go_ret
   refine⟨Au (CL ?_).symm,q,rfl⟩
   rw[bZ]
   ·exact HT.out
   exact bf (by rw[<-HT.out,<-Lib.size_eq];exact h0)
  have hf:=Az h0
  have hn:=Bb h0
  go_wp2
  go_ret
  refine⟨Au ?_,q,rfl⟩
  have:L= []:=by
   have e:=HT.out
   rw[CX h0]at e
   cases L with
   |nil=>rfl
   |cons p L=>simp at e
  rw[this];rfl
/-! ### Clean -/
theorem bn {L:List Bytes} {k:Nat} (hk:k<L.length):(L.take (k+1)).foldl Ei []=Ei ((L.take k).foldl Ei []) (L.getD k []):=by
 rw[List.take_succ_eq_append_getElem hk,List.foldl_append]
 simp[hk]
theorem gp {L:List Bytes} {k:Nat} (hk: ¬k<L.length):(L.take k).foldl Ei []=DD L:=by rw[List.take_of_length_le (by omega)];rfl
theorem Wl (L:List Bytes):total (DD L)<=total L:=by
 have:=JC L []
 have e:total []=0:=rfl
 unfold DD;omega
theorem Sk {out:List Bytes} {n:Nat} (h:out.length=n+1):(out.map D6).take n=out.dropLast.map D6:=by
 rw[List.dropLast_eq_take,h,List.map_take];rfl
theorem U9 (s d:ByteArray) (hd:d.data.toList=clean s.data.toList) (hs:s.size<=1099511627776) (w:World):
    Calls Tryz.prog 60 #[.string s] w fun e w'=>e= .returned (.string d)/\Below w.heap.size w w':=by
 obtain⟨i0,hi,hz0,hz1,hz2⟩:=info_parts IZ
 have HD:=hid hd
 have HP:=hid (MJ s hs)
 have HC:=hid (WJ s.data.toList)
 have V6:=hid (Hu s.data.toList)
 have HS:=hid (Lib.size_eq s)
 clear hd
 have HDD:Hid (d.data.toList=text (DD (parts s.data.toList))):=HD.out
 clear HD
 generalize parts s.data.toList=L at*
 have hn:L.length<=1099511627777:=by have:=HC.out;have:=HS.out;omega
 go_enter Tryz.func60,Tryz.ntmps60
 go_wp2_with fail
 refine(HP.out _).mono ?_
 rintro e w1 ⟨v,rfl,hown1,hb1⟩
 have T1:=hid (Bc.Bw hown1)
 have B1:=hid hb1
 clear hown1 hb1
 obtain⟨A,c,rfl,hA1,hA2⟩:=T1.out.form
 unfold maxLen at hA2
 generalize hm:L.length=n at*
 have HM:=hid hm
 clear hm
 go_wp2
 go_loopw [4,5] (fun u i wr=> ∃(k:Nat) (out:List Bytes),k<=n/\i= .int .i64 k/\out.length<=k/\Hid (out=(L.take k).foldl Ei [])/\Hid (wr.ownsRow w1.heap.size 9 1 u out.length (out.map D6))/\Below w1.heap.size w1 wr) (fun _ i _=>n-(intOf i).toNat)
 case atStart=>exact⟨0,[],Nat.zero_le _,rfl,Nat.le_refl _,rfl,World.ownsRow_nil _ _ _ _,Below.refl _ _⟩
 case round=>
  obtain⟨k,out,hk,rfl,hout,hf,hown,hb⟩:=hrel
  have hbs:=hb.size
  by_cases hlt:k<n
  ·obtain⟨ad,p,rfl,hbl,hc,hp⟩:=(T1.out.below hb).at_ hlt
   have HF:=hid (bn (L:=L) (k:=k) (by rw[HM.out];exact hlt))
   rw[<-hp,<-hf.out]at HF
   clear hp
   cases hdd:(p.toList== [46,46])with
   |true=>
    have hpe:=beq_iff_eq.1 hdd
    have HX:Hid ((L.take (k+1)).foldl Ei []=out.dropLast):=by
     show _=_
     rw[HF.out];unfold Ei;rw[if_pos (by rw[<-Lib.toList_data];exact hpe)]
    by_cases h0:0<out.length
    ·obtain⟨m,hm1⟩: ∃m,out.length=m+1:=⟨out.length-1,by omega⟩
     have hown2:=hown.out
     rw[hm1]at hown2
     obtain⟨g,cc,rfl,hc1,hc2,hless⟩:=gX hown2
     rw[Sk hm1]at hless
     have O:Hid (wr.ownsRow w1.heap.size 9 1 (.slice (some ⟨g,0,none⟩) m cc) out.dropLast.length (out.dropLast.map D6)):=by
      show World.ownsRow _ _ _ _ _ _ _
      rw[List.length_dropLast,hm1];exact hless
     have HL:Hid (out.dropLast.length=m):=by show _=_;rw[List.length_dropLast,hm1];rfl
     clear hless hown2
     unfold maxLen at hc2
     go_wp2
     go_roundw
     case rel=>exact⟨k+1,out.dropLast,by omega,by go_num,by rw[HL.out];omega,HX.out.symm,O,hb⟩
     case measure=>simp[intOf];omega
    have e0:out= []:=Tu h0
    subst e0
    have hv:=hown.out
    rcases hv.2 with⟨rfl,-⟩|⟨g,cc,cur,rfl,-,-,-,-,-,-⟩<;>
    ·clear hv
     go_wp2
     go_roundw
     case rel=>exact⟨k+1,[],by omega,by go_num,Nat.zero_le _,HX.out.symm,hown,hb⟩
     case measure=>simp[intOf];omega
   |false=>
    have hpe:=beq_eq_false_iff_ne.1 hdd
    have HX:Hid ((L.take (k+1)).foldl Ei []=out++ [p.data.toList]):=by
     show _=_
     rw[HF.out];unfold Ei;rw[if_neg (by rw[<-Lib.toList_data];exact hpe)]
    go_wp2_with (at_builtin;refine wpList_append_own _ rfl (.tmp 19) (.tmp 24) 23 rfl w1.heap.size 9 i0 (.string ⟨#[]⟩) 1 16 Tryz.underlying23 hi hz0 hz1 hz2 rfl (by decide) _ _ _ rfl (hown.out.alloc _) ⟨_,0,none⟩ 1 1 [.string p] rfl rfl (cell_one_new _ _ _) (by intro u hu;simp at hu;subst hu;rfl) (by unfold maxLen;omega) (by omega) (by simp;omega) ?_;intro v1 w2 hown1 hgrow1 _)
    have B2:=hid (Gn hb hown.out hgrow1)
    have O1:=hid (Ia hown1)
    clear hown1 hgrow1
    go_wp2
    go_roundw
    case rel=>exact⟨k+1,out++ [p.data.toList],by omega,by go_num,by rw[List.length_append];simp;omega,HX.out.symm,O1,B2.out⟩
    case measure=>simp[intOf];omega
  have HX:=hid (hf.out.trans (gp (by rw[HM.out];exact hlt)))
  have T2:=hid (Bc.Bw hown.out)
  have HL:Hid (total out<=4398046511104):=by
   show _<=_
   rw[HX.out]
   have:=Wl L;have:=V6.out;have:=HS.out;omega
  go_wp2_with fail
  refine(Wj _ out _ _ T2.out HL.out).mono ?_
  rintro e w2 ⟨rfl,q,rfl⟩
  go_wp2_with fail
  go_ret
  exact⟨Au (by rw[HX.out];exact CL HDD.out),on B1.out (hb.trans ((below_draws _ _).mono hb.size))⟩
end Jj
namespace W03
open Strs uD
open Kit (Au BO AX Ae BM CX Bh CO EY Py Ap Bl Az Bb EZ GY below_draws)
end W03
namespace Jj
open Strs Ki
open uD (check)
open Kit (Au AX CL Ae BM CF Ap Bl Az Bb CX Bh EZ GY below_draws on)
theorem QK {s d:ByteArray} (hd:d.data.toList=clean s.data.toList):d.size<=s.size+2:=by
 rw[Lib.size_eq,hd,Lib.size_eq];exact Tq _
theorem Oe (s d:ByteArray) (hd:d.data.toList=base s.data.toList) (hs:s.size<1099511627774) (w:World):
    Calls Tryz.prog 35 #[.string s] w fun e w'=>e= .returned (.string d)/\Below w.heap.size w w':=by
 obtain⟨c,hc⟩: ∃c:ByteArray,c.data.toList=clean s.data.toList:=⟨⟨(clean s.data.toList).toArray⟩,rfl⟩
 have hcs:=QK hc
 have HC:=hid (U9 s c hc (by omega))
 have HP:=hid (MJ c (by omega))
 have HD:Hid (d.data.toList=(parts c.data.toList).getLastD []):=by show _=_;rw[hd,hc];rfl
 clear hd hc
 generalize parts c.data.toList=L at*
 go_enter Tryz.func35,Tryz.ntmps35
 go_wp2_with fail
 refine(HC.out _).mono ?_
 rintro e w1 ⟨rfl,hb1⟩
 have B1:=hid hb1
 clear hb1
 go_wp2_with fail
 refine(HP.out _).mono ?_
 rintro e w2 ⟨v,rfl,hown2,hb2⟩
 have B2:=hid (on B1.out hb2)
 have T:=hid (Bc.Bw hown2)
 clear hown2 hb2
 obtain⟨A,cc,rfl,hA1,hA2⟩:=T.out.form
 unfold maxLen at hA2
 by_cases h0:0<L.length
 ·obtain⟨ad,p,rfl,hbl,hcell,hp⟩:=T.out.at_ (k:=L.length-1) (by omega)
  have HL:Hid (d=p):=by
   show _=_
   apply BM
   rw[HD.out,hp,List.getLastD_eq_getLast?,List.getLast?_eq_getElem?,List.getD_eq_getElem?_getD]
  clear hp
  generalize L.length=n at*
  obtain⟨m,rfl⟩: ∃m,n=m+1:=⟨n-1,by omega⟩
  rw[Nat.add_sub_cancel]at hcell
  clear h0
  go_wp2_with fail
  go_ret
  exact⟨Au HL.out.symm,B2.out⟩
 have e0:L= []:=Tu h0
 subst e0
 clear h0
 go_wp2_with fail
 go_ret
 exact⟨Au (BM (by rw[HD.out];rfl)),B2.out⟩
end Jj
end Go.Proofs.YtfgegjinhkgpbaaGreatDoor
