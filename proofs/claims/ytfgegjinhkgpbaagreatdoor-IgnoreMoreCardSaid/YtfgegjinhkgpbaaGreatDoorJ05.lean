/-
  Texts joined, in build order, each with its own comment and its own conditions: W14Numbers, W13Walk, W13Code, W13Asks, W13Text.
-/
import Derived.Test.YtfgegjinhkgpbaaGreatDoorJ04
import Derived.Test.YtfgegjinhkgpbaaGreatDoorChecked
import Derived.Test.YtfgegjinhkgpbaaGreatDoorJ01
import Derived.WalkKit
import Derived.KernelRfl
import Derived.Test.YtfgegjinhkgpbaaGreatDoorJ02
import Derived.Deep.LoopGhost
import Derived.BigQuiet
import Derived.Laws.BytesString
namespace Go.Proofs.YtfgegjinhkgpbaaGreatDoor
set_option maxHeartbeats 4000000
set_option maxRecDepth 100000
open Go.RowKit
open Lib (hid)
namespace W14
open M14
open Row256 (Beside)
open Kit (ret_str ret_bool ret_int mk_of mk_bytes ba_ext below_draws on list_full list_ne list_none list_nil)
def CutB (w:World) (d:Bool) (A B:List UInt8) (e:Ending) (w':World):Prop:= ∃a b:ByteArray,e= .returned (.tuple #[.string a,.string b,.bool d])∧a.data.toList=A∧b.data.toList=B∧Below w.heap.size w w'
theorem cutB_any {s:ByteArray} {l A B:List UInt8} {d:Bool} (hs:s.size≤1000000) (c:UInt8) (hl:s.data.toList=l) (hd:decide (c∈l)=d) (hA:before c l=A) (hB:behind c l=B) (w:World):Calls Tryz.prog 40 #[.string s,.string ⟨#[c]⟩] w (CutB w d A B):=by
 subst hl hd hA hB
 refine(cut_any s hs c w).mono ?_
 rintro e w' ⟨a,b,h,h1,h2,n,rfl⟩
 exact⟨a,b,h,h1,h2,below_draws w n⟩
def numV (r:Int×Int×Int×Nat):Value:= .tuple #[.int .i64 r.2.1,.int .i64 r.2.2.1,.int .i64 r.2.2.2,.int .i64 r.1]
theorem isEmpty_of {g:ByteArray} {G:List UInt8} (h:g.data.toList=G):g.toList.isEmpty=G.isEmpty:=by rw[Lib.toList_data,h]
theorem results_tmp4 {fn:Func} {a b c d:Tmp} (h:fn.results= #[.tmp a,.tmp b,.tmp c,.tmp d]) (tmps:Array Value) (P:Program) (w:World):(results fn tmps).run P w= .ok (.tuple #[tmps.getD a undef,tmps.getD b undef,tmps.getD c undef,tmps.getD d undef]) w:=by
 simp[results,h]
theorem numbers_open0 {s:ByteArray} (h0:0<s.size) (hs:s.size≤1000000) {l A F G:List UInt8} (hl:s.data.toList.drop 1=l) (hA:before 125 l=A) (hF:before 44 A=F) (hG:behind 44 A=G)
    (h125: ¬(125:UInt8)∈l) (h44: ¬(44:UInt8)∈A) (w:World):Calls Tryz.prog 163 #[.string s] w fun e w'=>e= .returned (numV no3)∧Below w.heap.size w w':=by
 have hq:(s.extract 1 s.size).data.toList=l:=by rw[Kit.drop_bytes,hl]
 have hq2:(s.extract 1 s.size).size≤1000000:=by rw[ByteArray.size_extract];omega
 have h1:(1:Int)≤(s.size:Int):=by omega
 have HC1:=hid (cutB_any hq2 125 hq (decide_eq_false h125) hA rfl w)
 have HA: ∀a:ByteArray,a.data.toList=A→a.size=A.length:=fun a h=>by rw[Lib.size_eq,h]
 have hAl:A.length≤1000000:=by
  rw[←hA]
  have e1:=(List.takeWhile_sublist (l:=l) (fun x=>decide (x≠125))).length_le
  have e2:l.length=s.size-1:=by rw[←hl,List.length_drop,←Lib.size_eq]
  unfold before
  omega
 clear hq hq2
 go_enter Tryz.func163,Tryz.ntmps163
 go_wp2_with fail
 refine HC1.out.mono ?_
 rintro e w1 ⟨a,b,rfl,ha,hb,l1⟩
 have hal:=HA a ha
 have HC2:=hid (cutB_any (by omega) 44 ha (decide_eq_false h44) hF hG w1)
 have L1:=hid l1
 clear hb l1
 go_wp2_with fail
 refine HC2.out.mono ?_
 rintro e w2 ⟨f,g,rfl,hf,hg,l2⟩
 have L2:=hid (on L1.out l2)
 have HF:=hid hf
 have HG:=hid hg
 have hfs:f.size≤1000000:=by
  rw[Lib.size_eq,hf,←hF]
  have e1:=(List.takeWhile_sublist (l:=A) (fun x=>decide (x≠44))).length_le
  unfold before
  omega
 have hgs:g.size≤1000000:=by
  rw[Lib.size_eq,hg,←hG]
  have e1:=(List.dropWhile_sublist (l:=A) (fun x=>decide (x≠44))).length_le
  unfold behind
  rw[List.length_drop]
  omega
 have HE:=isEmpty_of hg
 clear l2 hf hg
 go_wp2_with fail
 refine bodyPost_ret (results_tmp4 rfl _ _ _) rfl ?_
 exact⟨rfl,L2.out⟩
theorem numbers_open1 {s:ByteArray} (h0:0<s.size) (hs:s.size≤1000000) {l A F G:List UInt8} (hl:s.data.toList.drop 1=l) (hA:before 125 l=A) (hF:before 44 A=F) (hG:behind 44 A=G)
    (h125: ¬(125:UInt8)∈l) (h44:(44:UInt8)∈A) (w:World):Calls Tryz.prog 163 #[.string s] w fun e w'=>e= .returned (numV no3)∧Below w.heap.size w w':=by
 have hq:(s.extract 1 s.size).data.toList=l:=by rw[Kit.drop_bytes,hl]
 have hq2:(s.extract 1 s.size).size≤1000000:=by rw[ByteArray.size_extract];omega
 have h1:(1:Int)≤(s.size:Int):=by omega
 have HC1:=hid (cutB_any hq2 125 hq (decide_eq_false h125) hA rfl w)
 have HA: ∀a:ByteArray,a.data.toList=A→a.size=A.length:=fun a h=>by rw[Lib.size_eq,h]
 have hAl:A.length≤1000000:=by
  rw[←hA]
  have e1:=(List.takeWhile_sublist (l:=l) (fun x=>decide (x≠125))).length_le
  have e2:l.length=s.size-1:=by rw[←hl,List.length_drop,←Lib.size_eq]
  unfold before
  omega
 clear hq hq2
 go_enter Tryz.func163,Tryz.ntmps163
 go_wp2_with fail
 refine HC1.out.mono ?_
 rintro e w1 ⟨a,b,rfl,ha,hb,l1⟩
 have hal:=HA a ha
 have HC2:=hid (cutB_any (by omega) 44 ha (decide_eq_true h44) hF hG w1)
 have L1:=hid l1
 clear hb l1
 go_wp2_with fail
 refine HC2.out.mono ?_
 rintro e w2 ⟨f,g,rfl,hf,hg,l2⟩
 have L2:=hid (on L1.out l2)
 have HF:=hid hf
 have HG:=hid hg
 have hfs:f.size≤1000000:=by
  rw[Lib.size_eq,hf,←hF]
  have e1:=(List.takeWhile_sublist (l:=A) (fun x=>decide (x≠44))).length_le
  unfold before
  omega
 have hgs:g.size≤1000000:=by
  rw[Lib.size_eq,hg,←hG]
  have e1:=(List.dropWhile_sublist (l:=A) (fun x=>decide (x≠44))).length_le
  unfold behind
  rw[List.length_drop]
  omega
 have HE:=isEmpty_of hg
 clear l2 hf hg
 cases hge:g.toList.isEmpty
 ·skip
  go_wp2_with fail
  refine bodyPost_ret (results_tmp4 rfl _ _ _) rfl ?_
  exact⟨rfl,L2.out⟩
 ·skip
  go_wp2_with fail
  refine bodyPost_ret (results_tmp4 rfl _ _ _) rfl ?_
  exact⟨rfl,L2.out⟩
theorem numbers_first0 {s:ByteArray} (h0:0<s.size) (hs:s.size≤1000000) {l A F G:List UInt8} (hl:s.data.toList.drop 1=l) (hA:before 125 l=A) (hF:before 44 A=F) (hG:behind 44 A=G)
    (h125:(125:UInt8)∈l) (h44: ¬(44:UInt8)∈A) (hfn:isNum F=false) (w:World):Calls Tryz.prog 163 #[.string s] w fun e w'=>e= .returned (numV no3)∧Below w.heap.size w w':=by
 have hq:(s.extract 1 s.size).data.toList=l:=by rw[Kit.drop_bytes,hl]
 have hq2:(s.extract 1 s.size).size≤1000000:=by rw[ByteArray.size_extract];omega
 have h1:(1:Int)≤(s.size:Int):=by omega
 have HC1:=hid (cutB_any hq2 125 hq (decide_eq_true h125) hA rfl w)
 have HA: ∀a:ByteArray,a.data.toList=A→a.size=A.length:=fun a h=>by rw[Lib.size_eq,h]
 have hAl:A.length≤1000000:=by
  rw[←hA]
  have e1:=(List.takeWhile_sublist (l:=l) (fun x=>decide (x≠125))).length_le
  have e2:l.length=s.size-1:=by rw[←hl,List.length_drop,←Lib.size_eq]
  unfold before
  omega
 clear hq hq2
 go_enter Tryz.func163,Tryz.ntmps163
 go_wp2_with fail
 refine HC1.out.mono ?_
 rintro e w1 ⟨a,b,rfl,ha,hb,l1⟩
 have hal:=HA a ha
 have HC2:=hid (cutB_any (by omega) 44 ha (decide_eq_false h44) hF hG w1)
 have L1:=hid l1
 clear hb l1
 go_wp2_with fail
 refine HC2.out.mono ?_
 rintro e w2 ⟨f,g,rfl,hf,hg,l2⟩
 have L2:=hid (on L1.out l2)
 have HF:=hid hf
 have HG:=hid hg
 have hfs:f.size≤1000000:=by
  rw[Lib.size_eq,hf,←hF]
  have e1:=(List.takeWhile_sublist (l:=A) (fun x=>decide (x≠44))).length_le
  unfold before
  omega
 have hgs:g.size≤1000000:=by
  rw[Lib.size_eq,hg,←hG]
  have e1:=(List.dropWhile_sublist (l:=A) (fun x=>decide (x≠44))).length_le
  unfold behind
  rw[List.length_drop]
  omega
 have HE:=isEmpty_of hg
 clear l2 hf hg
 go_wp2_with fail
 refine(isNumber_any f hfs _).mono ?_
 rintro e w3 ⟨rfl,l3⟩
 have L3:=hid (on L2.out l3)
 rw[HF.out,hfn]
 clear l3
 go_wp2_with fail
 refine bodyPost_ret (results_tmp4 rfl _ _ _) rfl ?_
 exact⟨rfl,L3.out⟩
theorem numbers_first1 {s:ByteArray} (h0:0<s.size) (hs:s.size≤1000000) {l A F G:List UInt8} (hl:s.data.toList.drop 1=l) (hA:before 125 l=A) (hF:before 44 A=F) (hG:behind 44 A=G)
    (h125:(125:UInt8)∈l) (h44:(44:UInt8)∈A) (hfn:isNum F=false) (w:World):Calls Tryz.prog 163 #[.string s] w fun e w'=>e= .returned (numV no3)∧Below w.heap.size w w':=by
 have hq:(s.extract 1 s.size).data.toList=l:=by rw[Kit.drop_bytes,hl]
 have hq2:(s.extract 1 s.size).size≤1000000:=by rw[ByteArray.size_extract];omega
 have h1:(1:Int)≤(s.size:Int):=by omega
 have HC1:=hid (cutB_any hq2 125 hq (decide_eq_true h125) hA rfl w)
 have HA: ∀a:ByteArray,a.data.toList=A→a.size=A.length:=fun a h=>by rw[Lib.size_eq,h]
 have hAl:A.length≤1000000:=by
  rw[←hA]
  have e1:=(List.takeWhile_sublist (l:=l) (fun x=>decide (x≠125))).length_le
  have e2:l.length=s.size-1:=by rw[←hl,List.length_drop,←Lib.size_eq]
  unfold before
  omega
 clear hq hq2
 go_enter Tryz.func163,Tryz.ntmps163
 go_wp2_with fail
 refine HC1.out.mono ?_
 rintro e w1 ⟨a,b,rfl,ha,hb,l1⟩
 have hal:=HA a ha
 have HC2:=hid (cutB_any (by omega) 44 ha (decide_eq_true h44) hF hG w1)
 have L1:=hid l1
 clear hb l1
 go_wp2_with fail
 refine HC2.out.mono ?_
 rintro e w2 ⟨f,g,rfl,hf,hg,l2⟩
 have L2:=hid (on L1.out l2)
 have HF:=hid hf
 have HG:=hid hg
 have hfs:f.size≤1000000:=by
  rw[Lib.size_eq,hf,←hF]
  have e1:=(List.takeWhile_sublist (l:=A) (fun x=>decide (x≠44))).length_le
  unfold before
  omega
 have hgs:g.size≤1000000:=by
  rw[Lib.size_eq,hg,←hG]
  have e1:=(List.dropWhile_sublist (l:=A) (fun x=>decide (x≠44))).length_le
  unfold behind
  rw[List.length_drop]
  omega
 have HE:=isEmpty_of hg
 clear l2 hf hg
 cases hge:g.toList.isEmpty
 ·skip
  go_wp2_with fail
  refine(isNumber_any f hfs _).mono ?_
  rintro e w3 ⟨rfl,l3⟩
  have L3:=hid (on L2.out l3)
  rw[HF.out,hfn]
  clear l3
  go_wp2_with fail
  refine bodyPost_ret (results_tmp4 rfl _ _ _) rfl ?_
  exact⟨rfl,L3.out⟩
 ·skip
  go_wp2_with fail
  refine(isNumber_any f hfs _).mono ?_
  rintro e w3 ⟨rfl,l3⟩
  have L3:=hid (on L2.out l3)
  rw[HF.out,hfn]
  clear l3
  go_wp2_with fail
  refine bodyPost_ret (results_tmp4 rfl _ _ _) rfl ?_
  exact⟨rfl,L3.out⟩
theorem numbers_one {s:ByteArray} (h0:0<s.size) (hs:s.size≤1000000) {l A F G:List UInt8} (hl:s.data.toList.drop 1=l) (hA:before 125 l=A) (hF:before 44 A=F) (hG:behind 44 A=G)
    (h125:(125:UInt8)∈l) (h44: ¬(44:UInt8)∈A) (hfn:isNum F=true) (hm:mayB (val F) (val F)=true) (w:World):Calls Tryz.prog 163 #[.string s] w fun e w'=>e= .returned (numV (0,val F,val F,A.length+2))∧Below w.heap.size w w':=by
 have hq:(s.extract 1 s.size).data.toList=l:=by rw[Kit.drop_bytes,hl]
 have hq2:(s.extract 1 s.size).size≤1000000:=by rw[ByteArray.size_extract];omega
 have h1:(1:Int)≤(s.size:Int):=by omega
 have HC1:=hid (cutB_any hq2 125 hq (decide_eq_true h125) hA rfl w)
 have HA: ∀a:ByteArray,a.data.toList=A→a.size=A.length:=fun a h=>by rw[Lib.size_eq,h]
 have hAl:A.length≤1000000:=by
  rw[←hA]
  have e1:=(List.takeWhile_sublist (l:=l) (fun x=>decide (x≠125))).length_le
  have e2:l.length=s.size-1:=by rw[←hl,List.length_drop,←Lib.size_eq]
  unfold before
  omega
 clear hq hq2
 go_enter Tryz.func163,Tryz.ntmps163
 go_wp2_with fail
 refine HC1.out.mono ?_
 rintro e w1 ⟨a,b,rfl,ha,hb,l1⟩
 have hal:=HA a ha
 have HC2:=hid (cutB_any (by omega) 44 ha (decide_eq_false h44) hF hG w1)
 have L1:=hid l1
 clear hb l1
 go_wp2_with fail
 refine HC2.out.mono ?_
 rintro e w2 ⟨f,g,rfl,hf,hg,l2⟩
 have L2:=hid (on L1.out l2)
 have HF:=hid hf
 have HG:=hid hg
 have hfs:f.size≤1000000:=by
  rw[Lib.size_eq,hf,←hF]
  have e1:=(List.takeWhile_sublist (l:=A) (fun x=>decide (x≠44))).length_le
  unfold before
  omega
 have hgs:g.size≤1000000:=by
  rw[Lib.size_eq,hg,←hG]
  have e1:=(List.dropWhile_sublist (l:=A) (fun x=>decide (x≠44))).length_le
  unfold behind
  rw[List.length_drop]
  omega
 have HE:=isEmpty_of hg
 clear l2 hf hg
 go_wp2_with fail
 refine(isNumber_any f hfs _).mono ?_
 rintro e w3 ⟨rfl,l3⟩
 have L3:=hid (on L2.out l3)
 rw[HF.out,hfn]
 clear l3
 go_wp2_with fail
 refine(isNumber_any f hfs _).mono ?_
 rintro e w4 ⟨rfl,l4⟩
 have L4:=hid (on L3.out l4)
 rw[HF.out,hfn]
 clear l4
 go_wp2_with fail
 refine(value_any f (by rw[HF.out];exact hfn) _).mono ?_
 rintro e w5 ⟨rfl,l5⟩
 have L5:=hid (on L4.out l5)
 rw[HF.out]
 clear l5
 go_wp2_with fail
 refine(value_any f (by rw[HF.out];exact hfn) _).mono ?_
 rintro e w6 ⟨rfl,l6⟩
 have L6:=hid (on L5.out l6)
 rw[HF.out]
 clear l6
 go_wp2_with fail
 refine(mayBe_any _ _ _).mono ?_
 rintro e w9 ⟨rfl,rfl⟩
 rw[hm]
 have hw:wrap64 ((a.size:Int)+2)=((A.length+2:Nat):Int):=by rw[hal];unfold wrap64;omega
 go_wp2_with fail
 refine bodyPost_ret (results_tmp4 rfl _ _ _) rfl ?_
 refine⟨?_,L6.out⟩
 first|rfl|(simp only[hw];rfl)
theorem numbers_oneBad {s:ByteArray} (h0:0<s.size) (hs:s.size≤1000000) {l A F G:List UInt8} (hl:s.data.toList.drop 1=l) (hA:before 125 l=A) (hF:before 44 A=F) (hG:behind 44 A=G)
    (h125:(125:UInt8)∈l) (h44: ¬(44:UInt8)∈A) (hfn:isNum F=true) (hm:mayB (val F) (val F)=false) (w:World):Calls Tryz.prog 163 #[.string s] w fun e w'=>e= .returned (numV (4,0,0,0))∧Below w.heap.size w w':=by
 have hq:(s.extract 1 s.size).data.toList=l:=by rw[Kit.drop_bytes,hl]
 have hq2:(s.extract 1 s.size).size≤1000000:=by rw[ByteArray.size_extract];omega
 have h1:(1:Int)≤(s.size:Int):=by omega
 have HC1:=hid (cutB_any hq2 125 hq (decide_eq_true h125) hA rfl w)
 have HA: ∀a:ByteArray,a.data.toList=A→a.size=A.length:=fun a h=>by rw[Lib.size_eq,h]
 have hAl:A.length≤1000000:=by
  rw[←hA]
  have e1:=(List.takeWhile_sublist (l:=l) (fun x=>decide (x≠125))).length_le
  have e2:l.length=s.size-1:=by rw[←hl,List.length_drop,←Lib.size_eq]
  unfold before
  omega
 clear hq hq2
 go_enter Tryz.func163,Tryz.ntmps163
 go_wp2_with fail
 refine HC1.out.mono ?_
 rintro e w1 ⟨a,b,rfl,ha,hb,l1⟩
 have hal:=HA a ha
 have HC2:=hid (cutB_any (by omega) 44 ha (decide_eq_false h44) hF hG w1)
 have L1:=hid l1
 clear hb l1
 go_wp2_with fail
 refine HC2.out.mono ?_
 rintro e w2 ⟨f,g,rfl,hf,hg,l2⟩
 have L2:=hid (on L1.out l2)
 have HF:=hid hf
 have HG:=hid hg
 have hfs:f.size≤1000000:=by
  rw[Lib.size_eq,hf,←hF]
  have e1:=(List.takeWhile_sublist (l:=A) (fun x=>decide (x≠44))).length_le
  unfold before
  omega
 have hgs:g.size≤1000000:=by
  rw[Lib.size_eq,hg,←hG]
  have e1:=(List.dropWhile_sublist (l:=A) (fun x=>decide (x≠44))).length_le
  unfold behind
  rw[List.length_drop]
  omega
 have HE:=isEmpty_of hg
 clear l2 hf hg
 go_wp2_with fail
 refine(isNumber_any f hfs _).mono ?_
 rintro e w3 ⟨rfl,l3⟩
 have L3:=hid (on L2.out l3)
 rw[HF.out,hfn]
 clear l3
 go_wp2_with fail
 refine(isNumber_any f hfs _).mono ?_
 rintro e w4 ⟨rfl,l4⟩
 have L4:=hid (on L3.out l4)
 rw[HF.out,hfn]
 clear l4
 go_wp2_with fail
 refine(value_any f (by rw[HF.out];exact hfn) _).mono ?_
 rintro e w5 ⟨rfl,l5⟩
 have L5:=hid (on L4.out l5)
 rw[HF.out]
 clear l5
 go_wp2_with fail
 refine(value_any f (by rw[HF.out];exact hfn) _).mono ?_
 rintro e w6 ⟨rfl,l6⟩
 have L6:=hid (on L5.out l6)
 rw[HF.out]
 clear l6
 go_wp2_with fail
 refine(mayBe_any _ _ _).mono ?_
 rintro e w9 ⟨rfl,rfl⟩
 rw[hm]
 go_wp2_with fail
 refine bodyPost_ret (results_tmp4 rfl _ _ _) rfl ?_
 exact⟨rfl,L6.out⟩
theorem numbers_more {s:ByteArray} (h0:0<s.size) (hs:s.size≤1000000) {l A F G:List UInt8} (hl:s.data.toList.drop 1=l) (hA:before 125 l=A) (hF:before 44 A=F) (hG:behind 44 A=G)
    (h125:(125:UInt8)∈l) (h44:(44:UInt8)∈A) (hfn:isNum F=true) (hge:G= []) (hm:mayB (val F) (-1)=true) (w:World):Calls Tryz.prog 163 #[.string s] w fun e w'=>e= .returned (numV (0,val F,-1,A.length+2))∧Below w.heap.size w w':=by
 have hq:(s.extract 1 s.size).data.toList=l:=by rw[Kit.drop_bytes,hl]
 have hq2:(s.extract 1 s.size).size≤1000000:=by rw[ByteArray.size_extract];omega
 have h1:(1:Int)≤(s.size:Int):=by omega
 have HC1:=hid (cutB_any hq2 125 hq (decide_eq_true h125) hA rfl w)
 have HA: ∀a:ByteArray,a.data.toList=A→a.size=A.length:=fun a h=>by rw[Lib.size_eq,h]
 have hAl:A.length≤1000000:=by
  rw[←hA]
  have e1:=(List.takeWhile_sublist (l:=l) (fun x=>decide (x≠125))).length_le
  have e2:l.length=s.size-1:=by rw[←hl,List.length_drop,←Lib.size_eq]
  unfold before
  omega
 clear hq hq2
 go_enter Tryz.func163,Tryz.ntmps163
 go_wp2_with fail
 refine HC1.out.mono ?_
 rintro e w1 ⟨a,b,rfl,ha,hb,l1⟩
 have hal:=HA a ha
 have HC2:=hid (cutB_any (by omega) 44 ha (decide_eq_true h44) hF hG w1)
 have L1:=hid l1
 clear hb l1
 go_wp2_with fail
 refine HC2.out.mono ?_
 rintro e w2 ⟨f,g,rfl,hf,hg,l2⟩
 have L2:=hid (on L1.out l2)
 have HF:=hid hf
 have HG:=hid hg
 have hfs:f.size≤1000000:=by
  rw[Lib.size_eq,hf,←hF]
  have e1:=(List.takeWhile_sublist (l:=A) (fun x=>decide (x≠44))).length_le
  unfold before
  omega
 have hgs:g.size≤1000000:=by
  rw[Lib.size_eq,hg,←hG]
  have e1:=(List.dropWhile_sublist (l:=A) (fun x=>decide (x≠44))).length_le
  unfold behind
  rw[List.length_drop]
  omega
 have HE:=isEmpty_of hg
 clear l2 hf hg
 rw[hge]at HE
 have he:g.toList.isEmpty=true:=HE
 clear HE
 go_wp2_with fail
 refine(isNumber_any f hfs _).mono ?_
 rintro e w3 ⟨rfl,l3⟩
 have L3:=hid (on L2.out l3)
 rw[HF.out,hfn]
 clear l3
 go_wp2_with fail
 refine(value_any f (by rw[HF.out];exact hfn) _).mono ?_
 rintro e w4 ⟨rfl,l4⟩
 have L4:=hid (on L3.out l4)
 rw[HF.out]
 clear l4
 go_wp2_with fail
 refine(mayBe_any _ _ _).mono ?_
 rintro e w9 ⟨rfl,rfl⟩
 rw[hm]
 have hw:wrap64 ((a.size:Int)+2)=((A.length+2:Nat):Int):=by rw[hal];unfold wrap64;omega
 go_wp2_with fail
 refine bodyPost_ret (results_tmp4 rfl _ _ _) rfl ?_
 refine⟨?_,L4.out⟩
 first|rfl|(simp only[hw];rfl)
theorem numbers_moreBad {s:ByteArray} (h0:0<s.size) (hs:s.size≤1000000) {l A F G:List UInt8} (hl:s.data.toList.drop 1=l) (hA:before 125 l=A) (hF:before 44 A=F) (hG:behind 44 A=G)
    (h125:(125:UInt8)∈l) (h44:(44:UInt8)∈A) (hfn:isNum F=true) (hge:G= []) (hm:mayB (val F) (-1)=false) (w:World):Calls Tryz.prog 163 #[.string s] w fun e w'=>e= .returned (numV (4,0,0,0))∧Below w.heap.size w w':=by
 have hq:(s.extract 1 s.size).data.toList=l:=by rw[Kit.drop_bytes,hl]
 have hq2:(s.extract 1 s.size).size≤1000000:=by rw[ByteArray.size_extract];omega
 have h1:(1:Int)≤(s.size:Int):=by omega
 have HC1:=hid (cutB_any hq2 125 hq (decide_eq_true h125) hA rfl w)
 have HA: ∀a:ByteArray,a.data.toList=A→a.size=A.length:=fun a h=>by rw[Lib.size_eq,h]
 have hAl:A.length≤1000000:=by
  rw[←hA]
  have e1:=(List.takeWhile_sublist (l:=l) (fun x=>decide (x≠125))).length_le
  have e2:l.length=s.size-1:=by rw[←hl,List.length_drop,←Lib.size_eq]
  unfold before
  omega
 clear hq hq2
 go_enter Tryz.func163,Tryz.ntmps163
 go_wp2_with fail
 refine HC1.out.mono ?_
 rintro e w1 ⟨a,b,rfl,ha,hb,l1⟩
 have hal:=HA a ha
 have HC2:=hid (cutB_any (by omega) 44 ha (decide_eq_true h44) hF hG w1)
 have L1:=hid l1
 clear hb l1
 go_wp2_with fail
 refine HC2.out.mono ?_
 rintro e w2 ⟨f,g,rfl,hf,hg,l2⟩
 have L2:=hid (on L1.out l2)
 have HF:=hid hf
 have HG:=hid hg
 have hfs:f.size≤1000000:=by
  rw[Lib.size_eq,hf,←hF]
  have e1:=(List.takeWhile_sublist (l:=A) (fun x=>decide (x≠44))).length_le
  unfold before
  omega
 have hgs:g.size≤1000000:=by
  rw[Lib.size_eq,hg,←hG]
  have e1:=(List.dropWhile_sublist (l:=A) (fun x=>decide (x≠44))).length_le
  unfold behind
  rw[List.length_drop]
  omega
 have HE:=isEmpty_of hg
 clear l2 hf hg
 rw[hge]at HE
 have he:g.toList.isEmpty=true:=HE
 clear HE
 go_wp2_with fail
 refine(isNumber_any f hfs _).mono ?_
 rintro e w3 ⟨rfl,l3⟩
 have L3:=hid (on L2.out l3)
 rw[HF.out,hfn]
 clear l3
 go_wp2_with fail
 refine(value_any f (by rw[HF.out];exact hfn) _).mono ?_
 rintro e w4 ⟨rfl,l4⟩
 have L4:=hid (on L3.out l4)
 rw[HF.out]
 clear l4
 go_wp2_with fail
 refine(mayBe_any _ _ _).mono ?_
 rintro e w9 ⟨rfl,rfl⟩
 rw[hm]
 go_wp2_with fail
 refine bodyPost_ret (results_tmp4 rfl _ _ _) rfl ?_
 exact⟨rfl,L4.out⟩
theorem numbers_second {s:ByteArray} (h0:0<s.size) (hs:s.size≤1000000) {l A F G:List UInt8} (hl:s.data.toList.drop 1=l) (hA:before 125 l=A) (hF:before 44 A=F) (hG:behind 44 A=G)
    (h125:(125:UInt8)∈l) (h44:(44:UInt8)∈A) (hfn:isNum F=true) (hge: ¬G= []) (hgn:isNum G=false) (w:World):Calls Tryz.prog 163 #[.string s] w fun e w'=>e= .returned (numV no3)∧Below w.heap.size w w':=by
 have hq:(s.extract 1 s.size).data.toList=l:=by rw[Kit.drop_bytes,hl]
 have hq2:(s.extract 1 s.size).size≤1000000:=by rw[ByteArray.size_extract];omega
 have h1:(1:Int)≤(s.size:Int):=by omega
 have HC1:=hid (cutB_any hq2 125 hq (decide_eq_true h125) hA rfl w)
 have HA: ∀a:ByteArray,a.data.toList=A→a.size=A.length:=fun a h=>by rw[Lib.size_eq,h]
 have hAl:A.length≤1000000:=by
  rw[←hA]
  have e1:=(List.takeWhile_sublist (l:=l) (fun x=>decide (x≠125))).length_le
  have e2:l.length=s.size-1:=by rw[←hl,List.length_drop,←Lib.size_eq]
  unfold before
  omega
 clear hq hq2
 go_enter Tryz.func163,Tryz.ntmps163
 go_wp2_with fail
 refine HC1.out.mono ?_
 rintro e w1 ⟨a,b,rfl,ha,hb,l1⟩
 have hal:=HA a ha
 have HC2:=hid (cutB_any (by omega) 44 ha (decide_eq_true h44) hF hG w1)
 have L1:=hid l1
 clear hb l1
 go_wp2_with fail
 refine HC2.out.mono ?_
 rintro e w2 ⟨f,g,rfl,hf,hg,l2⟩
 have L2:=hid (on L1.out l2)
 have HF:=hid hf
 have HG:=hid hg
 have hfs:f.size≤1000000:=by
  rw[Lib.size_eq,hf,←hF]
  have e1:=(List.takeWhile_sublist (l:=A) (fun x=>decide (x≠44))).length_le
  unfold before
  omega
 have hgs:g.size≤1000000:=by
  rw[Lib.size_eq,hg,←hG]
  have e1:=(List.dropWhile_sublist (l:=A) (fun x=>decide (x≠44))).length_le
  unfold behind
  rw[List.length_drop]
  omega
 have HE:=isEmpty_of hg
 clear l2 hf hg
 have he:g.toList.isEmpty=false:=by rw[HE];cases G with|nil=>exact absurd rfl hge|cons _ _=>rfl
 clear HE
 go_wp2_with fail
 refine(isNumber_any f hfs _).mono ?_
 rintro e w3 ⟨rfl,l3⟩
 have L3:=hid (on L2.out l3)
 rw[HF.out,hfn]
 clear l3
 go_wp2_with fail
 refine(isNumber_any g hgs _).mono ?_
 rintro e w4 ⟨rfl,l4⟩
 have L4:=hid (on L3.out l4)
 rw[HG.out,hgn]
 clear l4
 go_wp2_with fail
 refine bodyPost_ret (results_tmp4 rfl _ _ _) rfl ?_
 exact⟨rfl,L4.out⟩
theorem numbers_two {s:ByteArray} (h0:0<s.size) (hs:s.size≤1000000) {l A F G:List UInt8} (hl:s.data.toList.drop 1=l) (hA:before 125 l=A) (hF:before 44 A=F) (hG:behind 44 A=G)
    (h125:(125:UInt8)∈l) (h44:(44:UInt8)∈A) (hfn:isNum F=true) (hge: ¬G= []) (hgn:isNum G=true) (hm:mayB (val F) (val G)=true) (w:World):Calls Tryz.prog 163 #[.string s] w fun e w'=>e= .returned (numV (0,val F,val G,A.length+2))∧Below w.heap.size w w':=by
 have hq:(s.extract 1 s.size).data.toList=l:=by rw[Kit.drop_bytes,hl]
 have hq2:(s.extract 1 s.size).size≤1000000:=by rw[ByteArray.size_extract];omega
 have h1:(1:Int)≤(s.size:Int):=by omega
 have HC1:=hid (cutB_any hq2 125 hq (decide_eq_true h125) hA rfl w)
 have HA: ∀a:ByteArray,a.data.toList=A→a.size=A.length:=fun a h=>by rw[Lib.size_eq,h]
 have hAl:A.length≤1000000:=by
  rw[←hA]
  have e1:=(List.takeWhile_sublist (l:=l) (fun x=>decide (x≠125))).length_le
  have e2:l.length=s.size-1:=by rw[←hl,List.length_drop,←Lib.size_eq]
  unfold before
  omega
 clear hq hq2
 go_enter Tryz.func163,Tryz.ntmps163
 go_wp2_with fail
 refine HC1.out.mono ?_
 rintro e w1 ⟨a,b,rfl,ha,hb,l1⟩
 have hal:=HA a ha
 have HC2:=hid (cutB_any (by omega) 44 ha (decide_eq_true h44) hF hG w1)
 have L1:=hid l1
 clear hb l1
 go_wp2_with fail
 refine HC2.out.mono ?_
 rintro e w2 ⟨f,g,rfl,hf,hg,l2⟩
 have L2:=hid (on L1.out l2)
 have HF:=hid hf
 have HG:=hid hg
 have hfs:f.size≤1000000:=by
  rw[Lib.size_eq,hf,←hF]
  have e1:=(List.takeWhile_sublist (l:=A) (fun x=>decide (x≠44))).length_le
  unfold before
  omega
 have hgs:g.size≤1000000:=by
  rw[Lib.size_eq,hg,←hG]
  have e1:=(List.dropWhile_sublist (l:=A) (fun x=>decide (x≠44))).length_le
  unfold behind
  rw[List.length_drop]
  omega
 have HE:=isEmpty_of hg
 clear l2 hf hg
 have he:g.toList.isEmpty=false:=by rw[HE];cases G with|nil=>exact absurd rfl hge|cons _ _=>rfl
 clear HE
 go_wp2_with fail
 refine(isNumber_any f hfs _).mono ?_
 rintro e w3 ⟨rfl,l3⟩
 have L3:=hid (on L2.out l3)
 rw[HF.out,hfn]
 clear l3
 go_wp2_with fail
 refine(isNumber_any g hgs _).mono ?_
 rintro e w4 ⟨rfl,l4⟩
 have L4:=hid (on L3.out l4)
 rw[HG.out,hgn]
 clear l4
 go_wp2_with fail
 refine(value_any f (by rw[HF.out];exact hfn) _).mono ?_
 rintro e w5 ⟨rfl,l5⟩
 have L5:=hid (on L4.out l5)
 rw[HF.out]
 clear l5
 go_wp2_with fail
 refine(value_any g (by rw[HG.out];exact hgn) _).mono ?_
 rintro e w6 ⟨rfl,l6⟩
 have L6:=hid (on L5.out l6)
 rw[HG.out]
 clear l6
 go_wp2_with fail
 refine(mayBe_any _ _ _).mono ?_
 rintro e w9 ⟨rfl,rfl⟩
 rw[hm]
 have hw:wrap64 ((a.size:Int)+2)=((A.length+2:Nat):Int):=by rw[hal];unfold wrap64;omega
 go_wp2_with fail
 refine bodyPost_ret (results_tmp4 rfl _ _ _) rfl ?_
 refine⟨?_,L6.out⟩
 first|rfl|(simp only[hw];rfl)
theorem numbers_twoBad {s:ByteArray} (h0:0<s.size) (hs:s.size≤1000000) {l A F G:List UInt8} (hl:s.data.toList.drop 1=l) (hA:before 125 l=A) (hF:before 44 A=F) (hG:behind 44 A=G)
    (h125:(125:UInt8)∈l) (h44:(44:UInt8)∈A) (hfn:isNum F=true) (hge: ¬G= []) (hgn:isNum G=true) (hm:mayB (val F) (val G)=false) (w:World):Calls Tryz.prog 163 #[.string s] w fun e w'=>e= .returned (numV (4,0,0,0))∧Below w.heap.size w w':=by
 have hq:(s.extract 1 s.size).data.toList=l:=by rw[Kit.drop_bytes,hl]
 have hq2:(s.extract 1 s.size).size≤1000000:=by rw[ByteArray.size_extract];omega
 have h1:(1:Int)≤(s.size:Int):=by omega
 have HC1:=hid (cutB_any hq2 125 hq (decide_eq_true h125) hA rfl w)
 have HA: ∀a:ByteArray,a.data.toList=A→a.size=A.length:=fun a h=>by rw[Lib.size_eq,h]
 have hAl:A.length≤1000000:=by
  rw[←hA]
  have e1:=(List.takeWhile_sublist (l:=l) (fun x=>decide (x≠125))).length_le
  have e2:l.length=s.size-1:=by rw[←hl,List.length_drop,←Lib.size_eq]
  unfold before
  omega
 clear hq hq2
 go_enter Tryz.func163,Tryz.ntmps163
 go_wp2_with fail
 refine HC1.out.mono ?_
 rintro e w1 ⟨a,b,rfl,ha,hb,l1⟩
 have hal:=HA a ha
 have HC2:=hid (cutB_any (by omega) 44 ha (decide_eq_true h44) hF hG w1)
 have L1:=hid l1
 clear hb l1
 go_wp2_with fail
 refine HC2.out.mono ?_
 rintro e w2 ⟨f,g,rfl,hf,hg,l2⟩
 have L2:=hid (on L1.out l2)
 have HF:=hid hf
 have HG:=hid hg
 have hfs:f.size≤1000000:=by
  rw[Lib.size_eq,hf,←hF]
  have e1:=(List.takeWhile_sublist (l:=A) (fun x=>decide (x≠44))).length_le
  unfold before
  omega
 have hgs:g.size≤1000000:=by
  rw[Lib.size_eq,hg,←hG]
  have e1:=(List.dropWhile_sublist (l:=A) (fun x=>decide (x≠44))).length_le
  unfold behind
  rw[List.length_drop]
  omega
 have HE:=isEmpty_of hg
 clear l2 hf hg
 have he:g.toList.isEmpty=false:=by rw[HE];cases G with|nil=>exact absurd rfl hge|cons _ _=>rfl
 clear HE
 go_wp2_with fail
 refine(isNumber_any f hfs _).mono ?_
 rintro e w3 ⟨rfl,l3⟩
 have L3:=hid (on L2.out l3)
 rw[HF.out,hfn]
 clear l3
 go_wp2_with fail
 refine(isNumber_any g hgs _).mono ?_
 rintro e w4 ⟨rfl,l4⟩
 have L4:=hid (on L3.out l4)
 rw[HG.out,hgn]
 clear l4
 go_wp2_with fail
 refine(value_any f (by rw[HF.out];exact hfn) _).mono ?_
 rintro e w5 ⟨rfl,l5⟩
 have L5:=hid (on L4.out l5)
 rw[HF.out]
 clear l5
 go_wp2_with fail
 refine(value_any g (by rw[HG.out];exact hgn) _).mono ?_
 rintro e w6 ⟨rfl,l6⟩
 have L6:=hid (on L5.out l6)
 rw[HG.out]
 clear l6
 go_wp2_with fail
 refine(mayBe_any _ _ _).mono ?_
 rintro e w9 ⟨rfl,rfl⟩
 rw[hm]
 go_wp2_with fail
 refine bodyPost_ret (results_tmp4 rfl _ _ _) rfl ?_
 exact⟨rfl,L6.out⟩
theorem numbers_any {s:ByteArray} (h0:0<s.size) (hs:s.size≤1000000) (w:World):Calls Tryz.prog 163 #[.string s] w fun e w'=>e= .returned (numV (braces (s.data.toList.drop 1)))∧Below w.heap.size w w':=by
 obtain⟨l,hl⟩: ∃l,s.data.toList.drop 1=l:=⟨_,rfl⟩
 rw[hl]
 by_cases h125:(125:UInt8)∈l
 ·by_cases h44:(44:UInt8)∈before 125 l
  ·cases hfn:isNum (firstB l)with
   |false=>
    rw[braces_bad (by unfold formB;rw[hfn];simp)]
    exact numbers_first1 h0 hs hl rfl rfl rfl h125 h44 hfn w
   |true=>
    by_cases hge:behind 44 (before 125 l)= []
    ·have ho:openB l=true:=by unfold openB;rw[decide_eq_true h44,decide_eq_true hge];rfl
     have ht:topB l= -1:=by unfold topB;rw[ho,if_pos rfl]
     rw[braces_good (by unfold formB;rw[decide_eq_true h125,hfn,ho];rfl),ht,range_may (by omega) (by omega)]
     cases hm:mayB (val (firstB l)) (-1)with
     |true=>exact numbers_more h0 hs hl rfl rfl rfl h125 h44 hfn hge hm w
     |false=>exact numbers_moreBad h0 hs hl rfl rfl rfl h125 h44 hfn hge hm w
    ·have ho:openB l=false:=by unfold openB;rw[decide_eq_true h44,decide_eq_false hge];rfl
     have h2:secondB l=behind 44 (before 125 l):=by unfold secondB;rw[if_pos h44]
     cases hgn:isNum (behind 44 (before 125 l))with
     |false=>
      rw[braces_bad (by unfold formB;rw[h2,hgn,ho];simp)]
      exact numbers_second h0 hs hl rfl rfl rfl h125 h44 hfn hge hgn w
     |true=>
      have ht:topB l=val (behind 44 (before 125 l)):=by unfold topB;rw[ho,if_neg (by simp),h2]
      rw[braces_good (by unfold formB;rw[decide_eq_true h125,hfn,ho,h2,hgn];rfl),ht,range_may (by omega) (by omega)]
      cases hm:mayB (val (firstB l)) (val (behind 44 (before 125 l)))with
      |true=>exact numbers_two h0 hs hl rfl rfl rfl h125 h44 hfn hge hgn hm w
      |false=>exact numbers_twoBad h0 hs hl rfl rfl rfl h125 h44 hfn hge hgn hm w
  ·have ho:openB l=false:=by unfold openB;rw[decide_eq_false h44,Bool.false_and]
   have h2:secondB l=firstB l:=by unfold secondB;rw[if_neg h44]
   cases hfn:isNum (firstB l)with
   |false=>
    rw[braces_bad (by unfold formB;rw[hfn];simp)]
    exact numbers_first0 h0 hs hl rfl rfl rfl h125 h44 hfn w
   |true=>
    have ht:topB l=val (firstB l):=by unfold topB;rw[ho,if_neg (by simp),h2]
    rw[braces_good (by unfold formB;rw[decide_eq_true h125,hfn,ho,h2,hfn];rfl),ht,range_may (by omega) (by omega)]
    cases hm:mayB (val (firstB l)) (val (firstB l))with
    |true=>exact numbers_one h0 hs hl rfl rfl rfl h125 h44 hfn hm w
    |false=>exact numbers_oneBad h0 hs hl rfl rfl rfl h125 h44 hfn hm w
 ·rw[braces_bad (by unfold formB;rw[decide_eq_false h125];rfl)]
  by_cases h44:(44:UInt8)∈before 125 l
  ·exact numbers_open1 h0 hs hl rfl rfl rfl h125 h44 w
  ·exact numbers_open0 h0 hs hl rfl rfl rfl h125 h44 w
end W14
namespace W13
open M13 Row256
open Kit (ret_str ret_bool ret_int mk_of mk_bytes ba_ext below_draws on)
def bv (f:Nat→Bool) (i:Nat):Value:= .bool (f i)
theorem bv_eq {f g:Nat→Bool} {i:Nat} (h:f i=g i):bv f i=bv g i:=by unfold bv;rw[h]
theorem bv_one (f:Nat→Bool) (i:Nat):(bv f i).oneCell'=true:=rfl
theorem info37:(Tryz.prog.info? 174).map (fun i=>(i.zero,i.size))=some (some (Value.agg (Array.replicate 256 (.bool false))),256):=by kernel_rfl
theorem zero37 (w:World):(zeroValue 174).run Tryz.prog w= .ok (.agg (rowV (bv fun _=>false))) w:=by
 have h:=(zero_of_info info37).1 w
 rw[rowV_same]at h;exact h
theorem size37:(Tryz.prog.info? 174).map (·.size)=some 256:=(zero_of_info info37).2
theorem size_row (g:Nat→Value):(Tryz.prog.info? 174).map (·.size)=some (rowV g).size:=by rw[rowV_size];exact size37
theorem load_row {ops:Array Oper} {rest:List Oper} {o:Oper} {a:Act} {w:World} {Q:Exit→Act→World→Prop} (hgd:o.guard=none) (x:Operand) (ho:o.op= .load 174 x)
    {b:Nat} (hx:a.eval x= .pointer (some ⟨b,0,none⟩)) {t:TypeId} {f:Nat→Value} (hr:Row w b t f) (h:wpList Tryz.prog ops Q rest (a.put o.dst (.agg (rowV f))) w):wpList Tryz.prog ops Q (o::rest) a w:=
 wpList_load_row hgd 174 x ho b hx t (rowV f) (0,0) _ hr Tryz.underlying174 rfl (size_row f) h
theorem store_row {ops:Array Oper} {rest:List Oper} {o:Oper} {a:Act} {w:World} {Q:Exit→Act→World→Prop} (hgd:o.guard=none) (x y:Operand) (ho:o.op= .store 174 x y)
    {b:Nat} {f:Nat→Bool} {g:Nat→Value} (hx:a.eval x= .pointer (some ⟨b,0,none⟩)) (hy:a.eval y= .agg (rowV (bv f))) {t:TypeId} (hr:Row w b t g)
    (h: ∀w',Row w' b t (bv f)→Beside b w w'→wpList Tryz.prog ops Q rest (a.put o.dst undef) w'):wpList Tryz.prog ops Q (o::rest) a w:=
 wpList_store_row hgd 174 x y ho b (rowV (bv f)) hx hy t (rowV g) hr (size_row _) (by rw[rowV_size,rowV_size]) (rowV_one (bv_one f))
  (h _ (hr.set _) ⟨rfl,rfl,rfl,by rw[setRow_size];exact Nat.le_refl _,fun k _ e=>setRow_other w b k _ e⟩)
theorem end_row {fn:Func} {R:Ending→World→Prop} {a:Act} {w:World} {p:Tmp} {b:Nat} {t:TypeId} {f:Nat→Value} (hf:fn.results= #[.cell p 174]) (hp:a.tmps.getD p undef= .pointer (some ⟨b,0,none⟩)) (hr:Row w b t f) (hd:a.defers= [])
    (hR:R (.returned (.agg (rowV f))) w):bodyPost Tryz.prog fn R .ret a w:=
 bodyPost_ret (results_cell_row hf a.tmps w b t (rowV f) (0,0) _ hp hr Tryz.underlying174 rfl (size_row f)) hd hR
theorem row_step {w:World} {b i:Nat} {t:TypeId} {F G:Nat→Bool} {v:Bool} (h:Row w b t (bv fun j=>if j<i then F j else G j)) (hv:v=F i):Row (w.setCell ⟨b,i,none⟩ (.bool v)) b t (bv fun j=>if j<i+1 then F j else G j):=by
 refine(h.put i (.bool v)).is fun j _=> ?_
 by_cases e:j=i
 ·subst e
  rw[if_pos rfl,hv]
  exact bv_eq (f:=fun _=>F j) (by rw[if_pos (by omega)])
 ·rw[if_neg e]
  refine bv_eq ?_
  by_cases e2:j<i
  ·rw[if_pos e2,if_pos (by omega)]
  ·rw[if_neg e2,if_neg (by omega)]
theorem span_any {w:World} {b:Nat} {t:TypeId} {f:Nat→Bool} (h:Row w b t (bv f)) (a c:UInt8):
    Calls Tryz.prog 186 #[.pointer (some ⟨b,0,none⟩),.int .u8 a.toNat,.int .u8 c.toNat] w fun e w'=>e= .returned (.tuple #[])∧Row w' b t (bv fun i=>f i||between a.toNat c.toNat i)∧Beside b w w':=by
 have HC:=hid h
 clear h
 have hc256:c.toNat<256:=UInt8.toNat_lt c
 have ha256:a.toNat<256:=UInt8.toNat_lt a
 go_enter Tryz.func186,Tryz.ntmps186
 go_wp2_with fail
 go_loopg [6] (c.toNat+1-a.toNat) (fun g s6 wr=> ∃i:Nat,s6= .int .i64 i∧a.toNat≤i∧(i+g=c.toNat+1∨g=0∧c.toNat<i)∧Hid (Row wr b t (bv fun j=>f j||(decide (a.toNat≤j)&&decide (j<i)&&decide (j≤c.toNat))))∧Hid (Beside b w wr))
 case atStart=>
  refine⟨a.toNat,rfl,Nat.le_refl _,by omega,HC.out.is fun j _=>bv_eq ?_,Beside.refl _ _⟩
  have e:(decide (a.toNat≤j)&&decide (j<a.toNat))=false:=by simp
  rw[e,Bool.false_and,Bool.or_false]
 case round=>
  obtain⟨i,rfl,hai,hig,hr,hb⟩:=hrel
  cases gk with
  |zero=>
   have hi:c.toNat<i:=by omega
   have hi2: ¬((i:Int)≤(c.toNat:Int)):=by omega
   have HI:=hid hi
   clear hi hig
   go_wp2
   go_end0
   refine⟨rfl,hr.out.is fun j _=>bv_eq ?_,hb.out⟩
   unfold between
   by_cases e:j≤c.toNat
   ·have:=HI.out
    rw[decide_eq_true (show j<i by omega),Bool.and_true]
   ·rw[decide_eq_false e,Bool.and_false,Bool.and_false]
  |succ g=>
   have hi:i≤c.toNat:=by omega
   have hi2:(i:Int)≤(c.toNat:Int):=by omega
   have hi3:(i:Int)<256:=by omega
   have hcell:=hr.out.cell (i:=i) (by omega)
   have hfree:=hr.out.free i
   generalize hold:bv (fun j=>f j||(decide (a.toNat≤j)&&decide (j<i)&&decide (j≤c.toNat))) i=old at hcell
   clear hold
   go_wp2
   go_roundg g
   case measure=>omega
   case rel=>
    refine⟨i+1,by first|rfl|simp,by omega,by omega,(hr.out.put i (.bool true)).is fun j _=> ?_,hb.out.put i _⟩
    by_cases e:j=i
    ·subst e
     rw[if_pos rfl]
     refine(bv_eq (f:=fun _=>true) ?_)
     rw[decide_eq_true hai,decide_eq_true (show j<j+1 by omega),decide_eq_true hi,Bool.and_true,Bool.and_true,Bool.or_true]
    ·rw[if_neg e]
     refine bv_eq ?_
     rw[show decide (j<i+1)=decide (j<i)from decide_eq_decide.2 (by omega)]
end W13
namespace W13
open M13 Row256
open Kit (ret_str ret_bool ret_int mk_of mk_bytes ba_ext below_draws on)
theorem others_any (f:Nat→Bool) (w:World):
    Calls Tryz.prog 174 #[.agg (rowV (bv f))] w fun e w'=>e= .returned (.agg (rowV (bv fun i=> !f i)))∧Below w.heap.size w w':=by
 have hz:=zero37
 go_enter Tryz.func174,Tryz.ntmps174
 go_wp2_with fail
 have hn1:Row (w.alloc (.cells (rowV (bv f)) 174)) w.heap.size 174 (bv f):=Row.new _ _ _
 have hn2:=Row.new (w.alloc (.cells (rowV (bv f)) 174)) 174 (bv fun _=>false)
 rw[World.size_alloc]at hn2
 have HN:=hid (And.intro (hn1.alloc (.cells (rowV (bv fun _=>false)) 174)) hn2)
 have HB:=hid ((Below.refl w.heap.size w).alloc (Nat.le_refl _) (.cells (rowV (bv f)) 174) |>.alloc (by rw[World.size_alloc];omega) (.cells (rowV (bv fun _=>false)) 174))
 clear hn1 hn2 hz
 generalize ((w.alloc (.cells (rowV (bv f)) 174)).alloc (.cells (rowV (bv fun _=>false)) 174))=w1 at HN HB ⊢
 go_loopg [4] 256 (fun g s4 wr=> ∃i:Nat,s4= .int .i64 i∧i+g=256∧Hid (Row wr w.heap.size 174 (bv fun j=>if j<i then !f j else f j))∧Hid (Row wr (w.heap.size+1) 174 (bv fun _=>false))∧Hid (Below w.heap.size w wr))
 case atStart=>exact⟨0,rfl,rfl,HN.out.1.is fun j _=>bv_eq (by rw[if_neg (by omega)]),HN.out.2,HB⟩
 case round=>
  obtain⟨i,rfl,hig,hr,hz,hb⟩:=hrel
  cases gk with
  |zero=>
   obtain rfl:i=256:=by omega
   go_wp2_with (first|(refine load_row rfl (.tmp 1) rfl rfl hr.out ?_)|(refine store_row rfl (.tmp 2) (.tmp 14) rfl rfl rfl hz.out ?_;intro wz hrz hbz;have HR:=hid hrz;have HZ:=hid hbz;clear hrz hbz))
   refine end_row rfl rfl (HR.out.is (k:=bv fun i=> !f i) fun j hj=>bv_eq (by rw[if_pos hj])) rfl ⟨rfl,?_⟩
   exact hb.out.trans (HZ.out.below hb.out.size (by omega))
  |succ g=>
   have hi3:(i:Int)<256:=by omega
   have hcell:=hr.out.cell (i:=i) (by omega)
   have hfree:=hr.out.free i
   have hval:bv (fun j=>if j<i then !f j else f j) i= .bool (f i):=bv_eq (f:=_) (g:=f) (by rw[if_neg (by omega)])
   rw[hval]at hcell
   clear hval
   go_wp2
   go_roundg g
   case measure=>omega
   case rel=>
    exact⟨i+1,by first|rfl|simp,by omega,row_step hr.out rfl,hz.out.other (by simp) _,hb.out.setCell (Nat.le_refl _) _⟩
theorem add_any {w:World} {b:Nat} {t:TypeId} {f:Nat→Bool} (h:Row w b t (bv f)) (m:Nat→Bool):
    Calls Tryz.prog 191 #[.pointer (some ⟨b,0,none⟩),.agg (rowV (bv m))] w fun e w'=>e= .returned (.tuple #[])∧Row w' b t (bv fun i=>f i||m i)∧Beside b w w':=by
 have hlt:=h.lt
 have HC:=hid h
 clear h
 go_enter Tryz.func191,Tryz.ntmps191
 go_wp2_with fail
 have HN:=hid (Row.new w 174 (bv m))
 have HB:Hid (Row (w.alloc (.cells (rowV (bv m)) 174)) b t (bv f)∧Beside b w (w.alloc (.cells (rowV (bv m)) 174))):=⟨HC.out.alloc _,Beside.of ((Below.refl w.heap.size w).alloc (Nat.le_refl _) _)⟩
 generalize (w.alloc (.cells (rowV (bv m)) 174))=w1 at HN HB ⊢
 have HL:=hid hlt
 obtain⟨d,hd⟩: ∃d,w.heap.size=d:=⟨_,rfl⟩
 rw[hd]at HN HL ⊢
 clear hlt HC
 have HD:=hid hd
 clear hd
 go_loopg [5] 256 (fun g s5 wr=> ∃i:Nat,s5= .int .i64 i∧i+g=256∧Hid (Row wr b t (bv fun j=>if j<i then f j||m j else f j))∧Hid (Row wr d 174 (bv m))∧Hid (Beside b w wr))
 case atStart=>exact⟨0,rfl,rfl,HB.out.1.is fun j _=>bv_eq (by rw[if_neg (by omega)]),HN,HB.out.2⟩
 case round=>
  obtain⟨i,rfl,hig,hr,hz,hb⟩:=hrel
  cases gk with
  |zero=>
   obtain rfl:i=256:=by omega
   go_wp2_with fail
   go_end0
   exact⟨rfl,hr.out.is fun j hj=>bv_eq (by rw[if_pos hj]),hb.out⟩
  |succ g=>
   have hi3:(i:Int)<256:=by omega
   have hcell:=hr.out.cell (i:=i) (by omega)
   have hfree:=hr.out.free i
   have hval:bv (fun j=>if j<i then f j||m j else f j) i= .bool (f i):=bv_eq (f:=_) (g:=f) (by rw[if_neg (by omega)])
   rw[hval]at hcell
   have hcell2:wr.cell? ⟨d,i,none⟩=some (.bool (m i)):=hz.out.cell (i:=i) (by omega)
   clear hval
   cases hf:f i with
   |true=>
    rw[hf]at hcell
    go_wp2_with fail
    go_region
    go_wp2_with fail
    go_roundg g
    case measure=>omega
    case rel=>
     refine⟨i+1,by first|rfl|simp,by omega,row_step hr.out (by rw[hf];rfl),(hz.out.other (a:=⟨b,i,none⟩) (by have:=HL.out;simp only;omega) _),?_⟩
     exact(hb.out.put i _).trans ⟨rfl,rfl,rfl,Nat.le_refl _,fun _ _ _=>rfl⟩
   |false=>
    rw[hf]at hcell
    go_wp2_with fail
    go_region
    go_wp2_with fail
    go_roundg g
    case measure=>omega
    case rel=>
     refine⟨i+1,by first|rfl|simp,by omega,row_step hr.out (by rw[hf];rfl),(hz.out.other (a:=⟨b,i,none⟩) (by have:=HL.out;simp only;omega) _),?_⟩
     exact(hb.out.put i _).trans ⟨rfl,rfl,rfl,Nat.le_refl _,fun _ _ _=>rfl⟩
theorem bitsOf_over (s:ByteArray) (w:World) (hs: ∀w,Calls Tryz.prog 158 #[.string s] w fun e w'=>e= .returned (.bool (good s.data.toList))∧w'=w):
    Calls Tryz.prog 175 #[.string s] w fun e w'=>e= .returned (.agg (rowV (bv (has s.data.toList))))∧Below w.heap.size w w':=by
 have hz:=zero37
 have HS:=hid hs
 clear hs
 go_enter Tryz.func175,Tryz.ntmps175
 go_wp2_with fail
 have hn1:Row (w.alloc (.cells (rowV (bv fun _=>false)) 174)) w.heap.size 174 (bv fun _=>false):=Row.new _ _ _
 have hn2:=Row.new (w.alloc (.cells (rowV (bv fun _=>false)) 174)) 174 (bv fun _=>false)
 rw[World.size_alloc]at hn2
 have HN:=hid (And.intro (hn1.alloc (.cells (rowV (bv fun _=>false)) 174)) hn2)
 have HB:=hid ((Below.refl w.heap.size w).alloc (Nat.le_refl _) (.cells (rowV (bv fun _=>false)) 174) |>.alloc (by rw[World.size_alloc];omega) (.cells (rowV (bv fun _=>false)) 174))
 clear hn1 hn2 hz
 generalize ((w.alloc (.cells (rowV (bv fun _=>false)) 174)).alloc (.cells (rowV (bv fun _=>false)) 174))=w1 at HN HB ⊢
 refine(HS.out w1).mono ?_
 rintro e w' ⟨rfl,rfl⟩
 cases hg:good s.data.toList with
 |false=>
  have HG:=hid hg
  clear hg
  go_wp2_with (first|(refine load_row rfl (.tmp 3) rfl rfl HN.out.2 ?_)|(refine store_row rfl (.tmp 2) (.tmp 8) rfl rfl rfl HN.out.1 ?_;intro wz hrz hbz;have HR:=hid hrz;have HZ:=hid hbz;clear hrz hbz))
  refine end_row rfl rfl (HR.out.is (k:=bv (has s.data.toList)) fun j hj=>bv_eq (has_bad HG.out j).symm) rfl ⟨rfl,?_⟩
  exact HB.out.trans (HZ.out.below HB.out.size (Nat.le_refl _))
 |true=>
  have hsz:s.size=256:=by rw[Lib.size_eq];exact good_len hg
  have HG:=hid hg
  clear hg
  have HSZ:=hid hsz
  clear hsz
  go_wp2_with fail
  go_loopg [9] 256 (fun g s9 wr=> ∃i:Nat,s9= .int .i64 i∧i+g=256∧Hid (Row wr (w.heap.size+1) 174 (bv fun j=>if j<i then has s.data.toList j else false))∧Hid (Row wr w.heap.size 174 (bv fun _=>false))∧Hid (Below w.heap.size w wr))
  case atStart=>exact⟨0,rfl,rfl,HN.out.2.is fun j _=>bv_eq (by rw[if_neg (by omega)]),HN.out.1,HB⟩
  case round=>
   obtain⟨i,rfl,hig,hr,hz,hb⟩:=hrel
   cases gk with
   |zero=>
    obtain rfl:i=256:=by omega
    go_wp2_with (first|(refine load_row rfl (.tmp 3) rfl rfl hr.out ?_)|(refine store_row rfl (.tmp 2) (.tmp 19) rfl rfl rfl hz.out ?_;intro wz hrz hbz;have HR:=hid hrz;have HZ:=hid hbz;clear hrz hbz))
    refine end_row rfl rfl (HR.out.is (k:=bv (has s.data.toList)) fun j hj=>bv_eq (by rw[if_pos hj])) rfl ⟨rfl,?_⟩
    exact hb.out.trans (HZ.out.below hb.out.size (by omega))
   |succ g=>
    have hsz:=HSZ.out
    have hi:i<s.size:=by omega
    have hi3:(i:Int)<256:=by omega
    have hcell:=hr.out.cell (i:=i) (by omega)
    have hfree:=hr.out.free i
    generalize hold:bv (fun j=>if j<i then has s.data.toList j else false) i=old at hcell
    clear hold
    have hval:((s[i].toNat:Int)==49)=has s.data.toList i:=by
     rw[has_good HG.out,Kit.byte_get s i hi]
     exact decide_eq_decide.2 ⟨fun h=>UInt8.toNat_inj.1 (show s[i].toNat=49 by omega),fun h=>by rw[h];rfl⟩
    have HV:=hid hval
    clear hval
    go_wp2
    go_roundg g
    case measure=>omega
    case rel=>
     refine⟨i+1,by first|rfl|simp,by omega,row_step hr.out ?_,hz.out.other (by simp) _,hb.out.setCell (by simp) _⟩
     exact HV.out
end W13
namespace W13
open M13 Row256
open Kit (ret_str ret_bool ret_int mk_of mk_bytes ba_ext below_draws on)
theorem isSet_any (s:ByteArray) (w:World):Calls Tryz.prog 158 #[.string s] w fun e w'=>e= .returned (.bool (good s.data.toList))∧w'=w:=by
 have hg:=good_counts s.data.toList
 have hle:=counts_le s.data.toList
 rw[←Lib.size_eq]at hg hle
 by_cases h:s.size=256
 ·have hi:(((s.size:Nat):Int)==256)=true:=by rw[h];rfl
  have hw:(wrap64 (((Lib.countByte s.data.toList 48:Nat):Int)+((Lib.countByte s.data.toList 49:Nat):Int))==256)=good s.data.toList:=by
   rw[←hg,decide_eq_true h,Bool.true_and,h]
   show(wrap64 (((s.data.toList.count 48:Nat):Int)+((s.data.toList.count 49:Nat):Int))==256)=decide (s.data.toList.count 48+s.data.toList.count 49=256)
   have e:wrap64 (((s.data.toList.count 48:Nat):Int)+((s.data.toList.count 49:Nat):Int))=((s.data.toList.count 48+s.data.toList.count 49:Nat):Int):=by unfold wrap64;omega
   rw[e]
   exact decide_eq_decide.2 (by omega)
  have HW:=hid hw
  clear hg hle hw
  go_enter Tryz.func158,Tryz.ntmps158
  go_wp2_with (refine(Tryz.strings_Count_one _ _ _).mono ?_;rintro e w' ⟨rfl,rfl⟩)
  go_ret
  exact⟨ret_bool HW.out,rfl⟩
 ·have HG:=hid hg
  have hi:(((s.size:Nat):Int)==256)=false:=beq_eq_false_iff_ne.2 (by omega)
  clear hg hle
  go_enter Tryz.func158,Tryz.ntmps158
  go_wp2_with fail
  go_ret
  refine⟨ret_bool ?_,rfl⟩
  rw[←HG.out,decide_eq_false h];rfl
theorem bitsOf_any (s:ByteArray) (w:World):Calls Tryz.prog 175 #[.string s] w fun e w'=>e= .returned (.agg (rowV (bv (has s.data.toList))))∧Below w.heap.size w w':=bitsOf_over s w (isSet_any s)
theorem has_at {s:ByteArray} (hg:good s.data.toList=true) {i:Nat} (hi:i<s.size):((s[i].toNat:Int)==49)=has s.data.toList i:=by
 rw[has_good hg,Kit.byte_get s i hi]
 exact decide_eq_decide.2 ⟨fun h=>UInt8.toNat_inj.1 (show s[i].toNat=49 by omega),fun h=>by rw[h];rfl⟩
theorem has_any (s:ByteArray) (c:UInt8) (w:World):Calls Tryz.prog 141 #[.string s,.int .u8 c.toNat] w fun e w'=>e= .returned (.bool (has s.data.toList c.toNat))∧w'=w:=by
 cases hg:good s.data.toList with
 |false=>
  have HG:=hid hg
  go_enter Tryz.func141,Tryz.ntmps141
  go_wp2_with fail
  refine(isSet_any s _).mono ?_
  rintro e w' ⟨rfl,rfl⟩
  go_wp2_with fail
  go_ret
  exact⟨ret_bool (has_bad HG.out _).symm,rfl⟩
 |true=>
  have hsz:s.size=256:=by rw[Lib.size_eq];exact good_len hg
  have hc:c.toNat<s.size:=by rw[hsz];exact UInt8.toNat_lt c
  have HV:=hid (has_at hg hc)
  clear hsz
  go_enter Tryz.func141,Tryz.ntmps141
  go_wp2_with fail
  refine(isSet_any s _).mono ?_
  rintro e w' ⟨rfl,rfl⟩
  go_wp2_with fail
  go_ret
  exact⟨ret_bool HV.out,rfl⟩
theorem letter_index (c:UInt8):decide (0≤Lib.indexByte [100,119,115,68,87,83] c)=letter c:=by
 unfold letter
 by_cases h1:c=100
 ·subst h1;rfl
 by_cases h2:c=119
 ·subst h2;rfl
 by_cases h3:c=115
 ·subst h3;rfl
 by_cases h4:c=68
 ·subst h4;rfl
 by_cases h5:c=87
 ·subst h5;rfl
 by_cases h6:c=83
 ·subst h6;rfl
 simp[Lib.indexByte,h1,h2,h3,h4,h5,h6,Ne.symm h1,Ne.symm h2,Ne.symm h3,Ne.symm h4,Ne.symm h5,Ne.symm h6]
theorem u8_back (c:UInt8):((c.toNat:Int)).toNat.toUInt8=c:=by
 rw[Int.toNat_natCast];exact UInt8.ofNat_toNat
theorem isLetter_any (c:UInt8) (w:World):Calls Tryz.prog 182 #[.int .u8 c.toNat] w fun e w'=>e= .returned (.bool (letter c))∧w'=w:=by
 have HV:=hid (letter_index c)
 have HU:=hid (u8_back c)
 go_enter Tryz.func182,Tryz.ntmps182
 go_wp2_with (refine(Tryz.strings_IndexByte _ _ _).mono ?_;rintro e w' ⟨rfl,rfl⟩;rw[HU.out])
 go_ret
 exact⟨ret_bool HV.out,rfl⟩
theorem joined_is (s:List UInt8):joined s=(Lib.hasPrefix s [45]&& !Lib.hasPrefix s [45,93]):=by
 unfold Lib.hasPrefix joined
 rcases s with _|⟨c,r⟩
 ·rfl
 ·by_cases h:c=45
  ·subst h
   rcases r with _|⟨d,q⟩
   ·rfl
   ·by_cases h2:d=93
    ·subst h2;simp
    ·have h3: ¬93=d:=fun e=>h2 e.symm
     simp[List.isPrefixOf,h2,h3]
  ·simp[h,Ne.symm h]
theorem isJoined_any (s:ByteArray) (w:World):Calls Tryz.prog 190 #[.string s] w fun e w'=>e= .returned (.bool (joined s.data.toList))∧w'=w:=by
 have HV:=hid (joined_is s.data.toList)
 cases hp:Lib.hasPrefix s.data.toList [45]with
 |false=>
  rw[hp]at HV
  go_enter Tryz.func190,Tryz.ntmps190
  go_wp2_with (refine(Tryz.strings_HasPrefix _ _ _).mono ?_;rintro e w' ⟨rfl,rfl⟩)
  go_ret
  exact⟨ret_bool HV.out.symm,rfl⟩
 |true=>
  rw[hp]at HV
  go_enter Tryz.func190,Tryz.ntmps190
  go_wp2_with (refine(Tryz.strings_HasPrefix _ _ _).mono ?_;rintro e w' ⟨rfl,rfl⟩)
  go_ret
  exact⟨ret_bool HV.out.symm,rfl⟩
end W13
namespace W13
open M13 Row256
open Kit (ret_str ret_bool ret_int mk_of mk_bytes ba_ext below_draws on)
def tx (f:Nat→Bool):ByteArray:=⟨(textOf f).toArray⟩
theorem tx_congr {f g:Nat→Bool} (h: ∀i,i<256→f i=g i):tx f=tx g:=by unfold tx;rw[textOf_congr h]
def uv (f:Nat→UInt8) (i:Nat):Value:= .int .u8 (f i).toNat
theorem uv_eq {f g:Nat→UInt8} {i:Nat} (h:f i=g i):uv f i=uv g i:=by unfold uv;rw[h]
theorem info52:(Tryz.prog.info? 149).map (fun i=>(i.zero,i.size))=some (some (Value.agg (Array.replicate 256 (.int .u8 0))),256):=by kernel_rfl
theorem zero52 (w:World):(zeroValue 149).run Tryz.prog w= .ok (.agg (rowV (uv fun _=>0))) w:=by
 have h:=(zero_of_info info52).1 w
 rw[rowV_same]at h;exact h
theorem byte_step {w:World} {b i:Nat} {t:TypeId} {F:Nat→UInt8} {v:Value} (h:Row w b t (uv fun j=>if j<i then F j else 0)) (u:Value) (hv:v=uv F i):Row ((w.setCell ⟨b,i,none⟩ u).setCell ⟨b,i,none⟩ v) b t (uv fun j=>if j<i+1 then F j else 0):=by
 refine((h.put i u).put i v).is fun j _=> ?_
 by_cases e:j=i
 ·subst e
  rw[if_pos rfl,hv]
  exact uv_eq (g:=fun k=>if k<j+1 then F k else 0) (by rw[if_pos (by omega)])
 ·rw[if_neg e,if_neg e]
  refine uv_eq ?_
  by_cases e2:j<i
  ·rw[if_pos e2,if_pos (by omega)]
  ·rw[if_neg e2,if_neg (by omega)]
theorem byte_step0 {w:World} {b i:Nat} {t:TypeId} {F:Nat→UInt8} {v:Value} (h:Row w b t (uv fun j=>if j<i then F j else 0)) (hv:v=uv F i):Row (w.setCell ⟨b,i,none⟩ v) b t (uv fun j=>if j<i+1 then F j else 0):=by
 refine(h.put i v).is fun j _=> ?_
 by_cases e:j=i
 ·subst e
  rw[if_pos rfl,hv]
  exact uv_eq (g:=fun k=>if k<j+1 then F k else 0) (by rw[if_pos (by omega)])
 ·rw[if_neg e]
  refine uv_eq ?_
  by_cases e2:j<i
  ·rw[if_pos e2,if_pos (by omega)]
  ·rw[if_neg e2,if_neg (by omega)]
theorem conv_row {w:World} {b:Nat} {t:TypeId} {f:Nat→Bool} (h:Row w b t (uv fun j=>bit (f j))):(convert 53 9 (.slice (some ⟨b,0,none⟩) 256 256)).run Tryz.prog w= .ok (.string (tx f)) w:=by
 have h2:=run_convert_bytes_back (P:=Tryz.prog) w 53 9 5 ⟨b,0,none⟩ 256 (textOf f) Tryz.underlying53 Tryz.underlying5 Tryz.underlying9 (fun j hj=>by
  have hj2:j<256:=by rw[textOf_len]at hj;exact hj
  have hc:=h.cell hj2
  have hadd:(⟨b,0,none⟩:Addr).add j=⟨b,j,none⟩:=by unfold Addr.add;split<;>simp_all
  have e:(textOf f)[j]'hj=bit (f j):=by
   have:=textOf_get f hj2
   rw[List.getElem?_eq_getElem hj]at this
   exact Option.some.inj this
  rw[hadd,hc]
  show some (Value.int .u8 (bit (f j)).toNat)=some (Value.int .u8 ((textOf f)[j]'hj).toNat)
  rw[e])
 rw[textOf_len]at h2
 exact h2
theorem text_any (f:Nat→Bool) (w:World):
    Calls Tryz.prog 176 #[.agg (rowV (bv f))] w fun e w'=>e= .returned (.string (tx f))∧Below w.heap.size w w':=by
 have hz:=zero52
 go_enter Tryz.func176,Tryz.ntmps176
 go_wp2_with fail
 have hn1:Row (w.alloc (.cells (rowV (bv f)) 174)) w.heap.size 174 (bv f):=Row.new _ _ _
 have hn2:=Row.new (w.alloc (.cells (rowV (bv f)) 174)) 149 (uv fun _=>0)
 rw[World.size_alloc]at hn2
 have HN:=hid (And.intro (hn1.alloc (.cells (rowV (uv fun _=>0)) 149)) hn2)
 have HB:=hid ((Below.refl w.heap.size w).alloc (Nat.le_refl _) (.cells (rowV (bv f)) 174) |>.alloc (by rw[World.size_alloc];omega) (.cells (rowV (uv fun _=>0)) 149))
 clear hn1 hn2 hz
 generalize ((w.alloc (.cells (rowV (bv f)) 174)).alloc (.cells (rowV (uv fun _=>0)) 149))=w1 at HN HB ⊢
 go_loopg [5] 256 (fun g s5 wr=> ∃i:Nat,s5= .int .i64 i∧i+g=256∧Hid (Row wr (w.heap.size+1) 149 (uv fun j=>if j<i then bit (f j)else 0))∧Hid (Row wr w.heap.size 174 (bv f))∧Hid (Below w.heap.size w wr))
 case atStart=>exact⟨0,rfl,rfl,HN.out.2.is fun j _=>uv_eq (by rw[if_neg (by omega)]),HN.out.1,HB⟩
 case round=>
  obtain⟨i,rfl,hig,hr,hz,hb⟩:=hrel
  cases gk with
  |zero=>
   obtain rfl:i=256:=by omega
   have hconv:=conv_row (f:=f) (hr.out.is fun j hj=>uv_eq (by rw[if_pos hj]))
   go_wp2_with fail
   go_ret
   exact⟨rfl,hb.out⟩
  |succ g=>
   have hi3:(i:Int)<256:=by omega
   have hcell:=hr.out.cell (i:=i) (by omega)
   have hfree:=hr.out.free i
   generalize hold:uv (fun j=>if j<i then bit (f j)else 0) i=old at hcell
   clear hold
   have hcell2:wr.cell? ⟨w.heap.size,i,none⟩=some (.bool (f i)):=hz.out.cell (i:=i) (by omega)
   cases hf:f i with
   |true=>
    rw[hf]at hcell2
    go_wp2_with fail
    go_roundg g
    case measure=>omega
    case rel=>exact⟨i+1,by first|rfl|simp,by omega,byte_step hr.out _ (by rw[show uv (fun j=>bit (f j)) i= .int .u8 (bit (f i)).toNat from rfl,hf];rfl),(hz.out.other (a:=⟨w.heap.size+1,i,none⟩) (by simp) _).other (by simp) _,(hb.out.setCell (p:=⟨w.heap.size+1,i,none⟩) (by simp) _).setCell (by simp) _⟩
   |false=>
    rw[hf]at hcell2
    go_wp2_with fail
    go_roundg g
    case measure=>omega
    case rel=>exact⟨i+1,by first|rfl|simp,by omega,byte_step0 hr.out (by rw[show uv (fun j=>bit (f j)) i= .int .u8 (bit (f i)).toNat from rfl,hf];rfl),hz.out.other (by simp) _,hb.out.setCell (by simp) _⟩
end W13
end Go.Proofs.YtfgegjinhkgpbaaGreatDoor
