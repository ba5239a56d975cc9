/-
  Texts joined, in build order, each with its own comment and its own conditions: W14Times, W14Numbers, W13Walk, W13Code, W13Asks.
-/
import Derived.Test.YtfgegjinhkgpbaaGreatDoorJ05
import Derived.Test.YtfgegjinhkgpbaaGreatDoorJ02
import Derived.Shelf.Strings.SlTrimAscii
import Derived.Lib.IndexLaws
import Derived.Lib.SmallJoins
import Derived.Test.YtfgegjinhkgpbaaGreatDoorChecked
import Derived.Test.YtfgegjinhkgpbaaGreatDoorJ03
import Derived.WalkKit
import Derived.KernelRfl
import Derived.Deep.LoopGhost
import Derived.BigQuiet
namespace Go.Proofs.YtfgegjinhkgpbaaGreatDoor
set_option maxHeartbeats 4000000
set_option maxRecDepth 100000
open Go.RowKit
open Lib (hid)
namespace W14
open Cj
open BU (Beside)
open Kit (Au AX BO CL Ae BM below_draws on Ap Bl Az Bb)
theorem Y4 {l:List UInt8} {c:UInt8} (h:c∈l):Lib.indexByte l c=((before c l).length:Int):=by
 induction l with
 |nil=>simp at h
 |cons d l ih=>
  unfold Lib.indexByte
  by_cases e:d=c
  ·subst e;rw[C8];simp
  have hl:c∈l:=by
    rcases List.mem_cons.1 h with q|q
    ·exact absurd q.symm e
    exact q
  rw[if_neg (by simpa using e),ih hl,Dj e,if_neg (by simp)]
  simp
theorem index_none {l:List UInt8} {c:UInt8} (h: ¬c∈l):Lib.indexByte l c= -1:=by
 induction l with
 |nil=>rfl
 |cons d l ih=>
  unfold Lib.indexByte
  have e: ¬d=c:=fun e=>h (by simp[e])
  rw[if_neg (by simpa using e),ih (fun q=>h (by simp[q]))]
  rfl
theorem Wt {l:List UInt8} {c:UInt8}:l.take (before c l).length=before c l:=by
 induction l with
 |nil=>rfl
 |cons d l ih=>
  by_cases e:d=c
  ·subst e;rw[C8];rfl
  rw[Dj e];simp[ih]
theorem Wu {l:List UInt8} {c:UInt8}:l.drop ((before c l).length+1)=behind c l:=by
 induction l with
 |nil=>rfl
 |cons d l ih=>
  by_cases e:d=c
  ·subst e;rw[C8,Js];rfl
  rw[Dj e]
  have:behind c (d::l)=behind c l:=by unfold behind;simp[e]
  rw[this,<-ih];simp
theorem Wv {l:List UInt8} {c:UInt8} (h:c∈l):(before c l).length<l.length:=by
 induction l with
 |nil=>simp at h
 |cons d l ih=>
  by_cases e:d=c
  ·subst e;rw[C8];simp
  have hl:c∈l:=by
    rcases List.mem_cons.1 h with q|q
    ·exact absurd q.symm e
    exact q
  rw[Dj e];simp only[List.length_cons];have:=ih hl;omega
theorem Ww {l:List UInt8} {c:UInt8} (h: ¬c∈l):behind c l= []:=by
 have:=JF h []
 rw[List.append_nil]at this
 rw[this];rfl
def qF (w:World) (d:Bool) (A B:List UInt8) (e:Ending) (w':World):Prop:= ∃a b:ByteArray,e= .returned (.tuple #[.string a,.string b,.bool d])/\a.data.toList=A/\b.data.toList=B/\ ∃n,w'=w.drewN n
theorem Wx (l:List UInt8):(⟨l.toArray⟩:ByteArray).data.toList=l:=rfl
theorem iJ (s:ByteArray) (hs:s.size<=1000000) (c:UInt8) (w:World):Calls Tryz.prog 70 #[.string s,.string ⟨#[c]⟩] w (qF w (decide (c∈s.data.toList)) (before c s.data.toList) (behind c s.data.toList)):=by
 have hl:s.data.toList.length=s.size:=(Lib.size_eq s).symm
 by_cases hc:c∈s.data.toList
 ·have HI:=hid (Y4 hc)
  have hlt:=Wv hc
  have HA:Hid ((s.extract 0 (before c s.data.toList).length).data.toList=before c s.data.toList):=by
   show _=_
   rw[Kit.Br,Wt]
  have HB:Hid ((s.extract ((before c s.data.toList).length+1) s.size).data.toList=behind c s.data.toList):=by
   show _=_
   rw[Kit.Aa,Wu]
  have HD:=hid (decide_eq_true hc)
  rw[HD.out]
  have xX:=HA.out.symm
  have xY:=HB.out.symm
  obtain⟨k,hk⟩: ∃k,(before c s.data.toList).length=k:=⟨_,rfl⟩
  rw[hk]at HI HA HB xX xY hlt
  rw[xX,xY]
  have h1:k<s.size:=by omega
  have h2:(k:Int)<(s.size:Int):=by omega
  have hw:wrap64 ((k:Int)+1)=((k+1:Nat):Int):=by unfold wrap64;omega
  have h3:((k+1:Nat):Int)<=(s.size:Int):=by omega
  clear HA HB xX xY hk hlt hl hc HD
  go_enter Tryz.func70,Tryz.ntmps70
  go_wp2_with (go_at_call 94;refine(Tryz.stringslite_Index_one s c w).mono ?_;rintro e w' ⟨rfl,rfl⟩;rw[HI.out])
  go_quiet (fail)
  go_wp2_with fail
  refine bodyPost_ret (results_tmp3 rfl _ _ _) rfl ?_
  exact⟨_,_,rfl,by first|rfl|(simp),by first|rfl|simp,nq,rfl⟩
 have HI:=hid (index_none hc)
 have HD:=hid (decide_eq_false hc)
 have HB:=hid (Ww hc)
 have HA:=hid (LK hc)
 rw[HD.out,HA.out,HB.out]
 clear HA HB HD hl hc
 go_enter Tryz.func70,Tryz.ntmps70
 go_wp2_with (go_at_call 94;refine(Tryz.stringslite_Index_one s c w).mono ?_;rintro e w' ⟨rfl,rfl⟩;rw[HI.out])
 refine bodyPost_ret (results_tmp3 rfl _ _ _) rfl ?_
 exact⟨_,_,rfl,rfl,rfl,0,rfl⟩
theorem nU (s:ByteArray) (hs:s.size<=1000000) (c:UInt8) (w:World):Calls Tryz.prog 40 #[.string s,.string ⟨#[c]⟩] w (qF w (decide (c∈s.data.toList)) (before c s.data.toList) (behind c s.data.toList)):=by
 have HC:=hid (iJ s hs c w)
 generalize decide (c∈s.data.toList)=d at*
 generalize before c s.data.toList=A at*
 generalize behind c s.data.toList=B at*
 go_enter Tryz.func40,Tryz.ntmps40
 go_wp2_with fail
 refine HC.out.mono ?_
 rintro e w' ⟨a,b,rfl,h1,h2,n,rfl⟩
 have H1:=hid h1
 have H2:=hid h2
 clear h1 h2
 go_wp2_with fail
 refine bodyPost_ret (results_tmp3 rfl _ _ _) rfl ?_
 exact⟨a,b,rfl,H1.out,H2.out,n,rfl⟩
/-! digits -/
theorem aY:(Tryz.prog.info? (Tryz.Oc.t 116)).map (fun i=>(i.zero,i.size))=some (some (.agg (Array.replicate 256 (.bool false))),256):=by kernel_rfl
def cu:List UInt8:= [48,49,50,51,52,53,54,55,56,57]
theorem iK (c:UInt8):cu.contains c=Ch c:=by
 have h: ∀n:Fin 256,cu.contains (UInt8.ofNat n.val)=Ch (UInt8.ofNat n.val):=by decide+kernel
 have:=h ⟨c.toNat,c.toNat_lt⟩
 simpa using this
theorem Wy: ∀(l:List UInt8),l.all Ch=true->l.dropWhile Ch= []
 | [],_=>rfl
 |c::l,h=>by
  rw[List.all_cons,Bool.and_eq_true]at h
  rw[List.dropWhile_cons_of_pos h.1]
  exact Wy l h.2
theorem iL {t:List UInt8}:(Lib.trimS t cu== [])=t.all Ch:=by
 have e:(fun c=>cu.contains c)=Ch:=funext iK
 unfold Lib.trimS Lib.trimLeftS Lib.trimRightS
 rw[e]
 cases h:t.all Ch with
 |true=>
  have:t.reverse.dropWhile Ch= []:=by
   refine Wy _ (List.all_eq_true.2 fun x hx=> ?_)
   exact List.all_eq_true.1 h x (List.mem_reverse.1 hx)
  rw[this];rfl
 |false=>
  obtain⟨x,hx,hn⟩: ∃x,x∈t/\Ch x=false:=by
   have:=List.all_eq_false.1 h
   obtain⟨x,hx,hn⟩:=this
   exact⟨x,hx,by simpa using hn⟩
  have h1: ∀l:List UInt8,x∈l->x∈l.dropWhile Ch:=by
   intro l
   induction l with
   |nil=>intro q;simp at q
   |cons d l ih=>
    intro q
    by_cases hd:Ch d=true
    ·rw[List.dropWhile_cons_of_pos hd]
     rcases List.mem_cons.1 q with q|q
     ·subst q;rw[hn]at hd;cases hd
     exact ih q
    rw[List.dropWhile_cons_of_neg hd];exact q
  have h2:=h1 _ (List.mem_reverse.2 (h1 _ (List.mem_reverse.2 hx)))
  cases hq:(List.dropWhile Ch (List.dropWhile Ch t.reverse).reverse)with
  |nil=>rw[hq]at h2;simp at h2
  |cons a b=>rfl
theorem Qg (s:ByteArray) (hs:s.size<=1000000) (w:World):Calls Tryz.prog 38 #[.string s,.string ⟨#[48,49,50,51,52,53,54,55,56,57]⟩] w fun e w'=> ∃d:ByteArray,e= .returned (.string d)/\d.toList.isEmpty=s.data.toList.all Ch/\Below w.heap.size w w':=by
 refine Calls.mono (Any.strings_Trim_laid Tryz.U2 aY s ⟨#[48,49,50,51,52,53,54,55,56,57]⟩ w (by omega) (by decide) (ascii_of_all (by decide))) ?_
 rintro e w1 ⟨rfl,hb⟩
 refine⟨_,rfl,?_,hb⟩
 rw[<-iL,Lib.toList_data,Wx]
 show(Lib.trimS s.data.toList cu).isEmpty=_
 cases Lib.trimS s.data.toList cu<;>rfl
theorem Bu (s:ByteArray) (hs:s.size<=1000000) (w:World):Calls Tryz.prog 172 #[.string s] w fun e w'=>e= .returned (.bool (isNum s.data.toList))/\Below w.heap.size w w':=by
 have hl:s.data.toList.length=s.size:=(Lib.size_eq s).symm
 by_cases h0:0<s.size
 ·have he:=Ap h0
  by_cases h3:s.size<=3
  ·have HV:Hid (isNum s.data.toList=s.data.toList.all Ch):=by
     unfold Hid isNum
     rw[decide_eq_true (Kit.Pw h0),decide_eq_true (by omega),Bool.true_and,Bool.true_and]
   have h3':(s.size:Int)<=3:=by omega
   have HT:=hid (Qg s hs w)
   rw[HV.out]
   generalize s.data.toList.all Ch=b at*
   clear hl HV
   go_enter Tryz.func172,Tryz.ntmps172
   go_wp2_with fail
   refine HT.out.mono ?_
   rintro e w1 ⟨d,rfl,hd,hb⟩
   have HB:=hid hb
   clear hb
   go_wp2_with fail
   go_ret
   exact⟨rfl,HB.out⟩
  have HV:Hid (isNum s.data.toList=false):=by
    unfold Hid isNum
    rw[decide_eq_false (p:=s.data.toList.length<=3) (by omega),Bool.false_and,Bool.and_false]
  have h3': ¬(s.size:Int)<=3:=by omega
  rw[HV.out]
  clear hl HV
  go_enter Tryz.func172,Tryz.ntmps172
  go_wp2_with fail
  go_ret
  exact⟨rfl,Below.refl _ _⟩
 have he:=Az h0
 have HV:Hid (isNum s.data.toList=false):=by
  unfold Hid isNum
  rw[Kit.CX h0];rfl
 rw[HV.out]
 clear hl HV
 go_enter Tryz.func172,Tryz.ntmps172
 go_wp2_with fail
 go_ret
 exact⟨rfl,Below.refl _ _⟩
theorem VC {c:UInt8} (h:Ch c=true):Lib.digitVal c=some (c.toNat-48):=by
 unfold Lib.digitVal
 unfold Ch at h
 simp only[Bool.and_eq_true,decide_eq_true_eq]at h
 rw[if_pos ⟨h.1,h.2⟩]
theorem Oj: ∀(l:List UInt8) (n:Nat),l.all Ch=true->Lib.decFrom n l=some (l.foldl (fun n c=>n*10+(c.toNat-48)) n)
 | [],n,_=>rfl
 |c::l,n,h=>by
  rw[List.all_cons,Bool.and_eq_true]at h
  unfold Lib.decFrom
  rw[VC h.1]
  exact Oj l _ h.2
theorem iM {t:List UInt8} (h:isNum t=true):Lib.atoi t=some (val t:Int):=by
 unfold isNum at h
 simp only[Bool.and_eq_true,decide_eq_true_eq]at h
 obtain⟨h1,-,h2⟩:=h
 cases t with
 |nil=>exact absurd rfl h1
 |cons c l=>
  have hc:=(List.all_cons▸h2:(Ch c&&l.all Ch)=true)
  have hd:Ch c=true:=(Bool.and_eq_true_iff.1 hc).1
  have n45: ¬c=45:=by rintro rfl;revert hd;decide
  have n43: ¬c=43:=by rintro rfl;revert hd;decide
  unfold Lib.atoi
  simp only
  rw[if_neg (by simpa using n45),if_neg (by simpa using n43)]
  unfold Lib.decNat
  rw[if_neg (by simp),Oj _ _ h2]
  rfl
theorem EG (s:ByteArray) (h:isNum s.data.toList=true) (w:World):Calls Tryz.prog 173 #[.string s] w fun e w'=>e= .returned (.int .i64 (val s.data.toList))/\Below w.heap.size w w':=by
 have hz:s.size<=3:=by
  unfold isNum at h
  simp only[Bool.and_eq_true,decide_eq_true_eq]at h
  rw[Lib.size_eq];exact h.2.1
 have HT:=hid (Tryz.strconv_Atoi s (val s.data.toList) (by omega) (iM h) w)
 generalize val s.data.toList=n at*
 clear h
 go_enter Tryz.func173,Tryz.ntmps173
 go_wp2_with fail
 refine HT.out.mono ?_
 rintro e w1 ⟨rfl,t,rfl⟩
 go_wp2_with fail
 go_ret
 exact⟨rfl,Joins.below_bytesWorld _ _ _ _ (Nat.le_refl _)⟩
theorem Fe (m t:Int) (w:World):Calls Tryz.prog 129 #[.int .i64 m,.int .i64 t] w fun e w'=>e= .returned (.bool (Fb m t))/\w'=w:=by
 by_cases h1:0<=m
 ·by_cases h2:m<=100
  ·by_cases h3:t= -1
   ·have t3:(t== -1)=true:=by simpa using h3
    have HV:Hid (Fb m t=true):=by
     unfold Hid Fb
     simp[h1,h2,h3]
    rw[HV.out]
    clear HV
    go_enter Tryz.func129,Tryz.ntmps129
    go_wp2_with fail
    go_ret
    exact⟨rfl,rfl⟩
   have t3:(t== -1)=false:=by simpa using h3
   by_cases h4:m<=t
   ·by_cases h5:t<=100
    ·skip
     have HV:Hid (Fb m t=true):=by
      unfold Hid Fb
      simp[h1,h2,h3,h4,h5]
     rw[HV.out]
     clear HV
     go_enter Tryz.func129,Tryz.ntmps129
     go_wp2_with fail
     go_ret
     exact⟨rfl,rfl⟩
    skip
    have HV:Hid (Fb m t=false):=by
     unfold Hid Fb
     simp[h1,h2,h3,h4,h5]
    rw[HV.out]
    clear HV
    go_enter Tryz.func129,Tryz.ntmps129
    go_wp2_with fail
    go_ret
    exact⟨rfl,rfl⟩
   skip
   have HV:Hid (Fb m t=false):=by
    unfold Hid Fb
    simp[h1,h2,h3,h4]
   rw[HV.out]
   clear HV
   go_enter Tryz.func129,Tryz.ntmps129
   go_wp2_with fail
   go_ret
   exact⟨rfl,rfl⟩
  skip
  have HV:Hid (Fb m t=false):=by
   unfold Hid Fb
   simp[h1,h2]
  rw[HV.out]
  clear HV
  go_enter Tryz.func129,Tryz.ntmps129
  go_wp2_with fail
  go_ret
  exact⟨rfl,rfl⟩
 skip
 have HV:Hid (Fb m t=false):=by
  unfold Hid Fb
  simp[h1]
 rw[HV.out]
 clear HV
 go_enter Tryz.func129,Tryz.ntmps129
 go_wp2_with fail
 go_ret
 exact⟨rfl,rfl⟩
end W14
namespace W14
open Cj
open BU (Beside)
open Kit (Au AX BO CL Ae BM below_draws on Ap Bl Az Bb)
def xZ (w:World) (d:Bool) (A B:List UInt8) (e:Ending) (w':World):Prop:= ∃a b:ByteArray,e= .returned (.tuple #[.string a,.string b,.bool d])/\a.data.toList=A/\b.data.toList=B/\Below w.heap.size w w'
theorem CQ {s:ByteArray} {l A B:List UInt8} {d:Bool} (hs:s.size<=1000000) (c:UInt8) (hl:s.data.toList=l) (hd:decide (c∈l)=d) (hA:before c l=A) (hB:behind c l=B) (w:World):Calls Tryz.prog 40 #[.string s,.string ⟨#[c]⟩] w (xZ w d A B):=by
 subst hl hd hA hB
 refine(nU s hs c w).mono ?_
 rintro e w' ⟨a,b,h,h1,h2,n,rfl⟩
 exact⟨a,b,h,h1,h2,below_draws w n⟩
def Ma (r:Int×Int×Int×Nat):Value:= .tuple #[.int .i64 r.2.1,.int .i64 r.2.2.1,.int .i64 r.2.2.2,.int .i64 r.1]
theorem DW {g:ByteArray} {G:List UInt8} (h:g.data.toList=G):g.toList.isEmpty=G.isEmpty:=by rw[Lib.toList_data,h]
theorem BV {fn:Func} {a b c d:Tmp} (h:fn.results= #[.tmp a,.tmp b,.tmp c,.tmp d]) (tmps:Array Value) (P:Program) (w:World):(results fn tmps).run P w= .ok (.tuple #[tmps.getD a undef,tmps.getD b undef,tmps.getD c undef,tmps.getD d undef]) w:=by
 simp[results,h]
theorem Sl {s:ByteArray} (h0:0<s.size) (hs:s.size<=1000000) {l A F G:List UInt8} (hl:s.data.toList.drop 1=l) (hA:before 125 l=A) (hF:before 44 A=F) (hG:behind 44 A=G)
    (Bf: ¬(125:UInt8)∈l) (De: ¬(44:UInt8)∈A) (w:World):Calls Tryz.prog 163 #[.string s] w fun e w'=>e= .returned (Ma Pb)/\Below w.heap.size w w':=by
 have hq:(s.extract 1 s.size).data.toList=l:=by rw[Kit.Aa,hl]
 have hq2:(s.extract 1 s.size).size<=1000000:=by rw[ByteArray.size_extract];omega
 have h1:(1:Int)<=(s.size:Int):=by omega
 have GQ:=hid (CQ hq2 125 hq (decide_eq_false Bf) hA rfl w)
 have HA: ∀a:ByteArray,a.data.toList=A->a.size=A.length:=fun a h=>by rw[Lib.size_eq,h]
 have mK:A.length<=1000000:=by
  rw[<-hA]
  have e1:=(List.takeWhile_sublist (l:=l) (fun x=>decide (x≠125))).length_le
  have e2:l.length=s.size-1:=by rw[<-hl,List.length_drop,<-Lib.size_eq]
  unfold before
  omega
 clear hq hq2
 go_enter Tryz.func163,Tryz.ntmps163
 go_wp2_with fail
 refine GQ.out.mono ?_
 rintro e w1 ⟨a,b,rfl,ha,hb,l1⟩
 have hal:=HA a ha
 have Ii:=hid (CQ (by omega) 44 ha (decide_eq_false De) hF hG w1)
 have L1:=hid l1
 clear hb l1
 go_wp2_with fail
 refine Ii.out.mono ?_
 rintro e w2 ⟨f,g,rfl,hf,hg,l2⟩
 have L2:=hid (on L1.out l2)
 have HF:=hid hf
 have HG:=hid hg
 have hfs:f.size<=1000000:=by
  rw[Lib.size_eq,hf,<-hF]
  have e1:=(List.takeWhile_sublist (l:=A) (fun x=>decide (x≠44))).length_le
  unfold before
  omega
 have hgs:g.size<=1000000:=by
  rw[Lib.size_eq,hg,<-hG]
  have e1:=(List.dropWhile_sublist (l:=A) (fun x=>decide (x≠44))).length_le
  unfold behind
  rw[List.length_drop]
  omega
 have HE:=DW hg
 clear l2 hf hg
 go_wp2_with fail
 refine bodyPost_ret (BV rfl _ _ _) rfl ?_
 exact⟨rfl,L2.out⟩
theorem Sm {s:ByteArray} (h0:0<s.size) (hs:s.size<=1000000) {l A F G:List UInt8} (hl:s.data.toList.drop 1=l) (hA:before 125 l=A) (hF:before 44 A=F) (hG:behind 44 A=G)
    (Bf: ¬(125:UInt8)∈l) (De:(44:UInt8)∈A) (w:World):Calls Tryz.prog 163 #[.string s] w fun e w'=>e= .returned (Ma Pb)/\Below w.heap.size w w':=by
 have hq:(s.extract 1 s.size).data.toList=l:=by rw[Kit.Aa,hl]
 have hq2:(s.extract 1 s.size).size<=1000000:=by rw[ByteArray.size_extract];omega
 have h1:(1:Int)<=(s.size:Int):=by omega
 have GQ:=hid (CQ hq2 125 hq (decide_eq_false Bf) hA rfl w)
 have HA: ∀a:ByteArray,a.data.toList=A->a.size=A.length:=fun a h=>by rw[Lib.size_eq,h]
 have mK:A.length<=1000000:=by
  rw[<-hA]
  have e1:=(List.takeWhile_sublist (l:=l) (fun x=>decide (x≠125))).length_le
  have e2:l.length=s.size-1:=by rw[<-hl,List.length_drop,<-Lib.size_eq]
  unfold before
  omega
 clear hq hq2
 go_enter Tryz.func163,Tryz.ntmps163
 go_wp2_with fail
 refine GQ.out.mono ?_
 rintro e w1 ⟨a,b,rfl,ha,hb,l1⟩
 have hal:=HA a ha
 have Ii:=hid (CQ (by omega) 44 ha (decide_eq_true De) hF hG w1)
 have L1:=hid l1
 clear hb l1
 go_wp2_with fail
 refine Ii.out.mono ?_
 rintro e w2 ⟨f,g,rfl,hf,hg,l2⟩
 have L2:=hid (on L1.out l2)
 have HF:=hid hf
 have HG:=hid hg
 have hfs:f.size<=1000000:=by
  rw[Lib.size_eq,hf,<-hF]
  have e1:=(List.takeWhile_sublist (l:=A) (fun x=>decide (x≠44))).length_le
  unfold before
  omega
 have hgs:g.size<=1000000:=by
  rw[Lib.size_eq,hg,<-hG]
  have e1:=(List.dropWhile_sublist (l:=A) (fun x=>decide (x≠44))).length_le
  unfold behind
  rw[List.length_drop]
  omega
 have HE:=DW hg
 clear l2 hf hg
 cases hge:g.toList.isEmpty
 ·skip
  go_wp2_with fail
  refine bodyPost_ret (BV rfl _ _ _) rfl ?_
  exact⟨rfl,L2.out⟩
 skip
 go_wp2_with fail
 refine bodyPost_ret (BV rfl _ _ _) rfl ?_
 exact⟨rfl,L2.out⟩
theorem Qh {s:ByteArray} (h0:0<s.size) (hs:s.size<=1000000) {l A F G:List UInt8} (hl:s.data.toList.drop 1=l) (hA:before 125 l=A) (hF:before 44 A=F) (hG:behind 44 A=G)
    (Bf:(125:UInt8)∈l) (De: ¬(44:UInt8)∈A) (hfn:isNum F=false) (w:World):Calls Tryz.prog 163 #[.string s] w fun e w'=>e= .returned (Ma Pb)/\Below w.heap.size w w':=by
 have hq:(s.extract 1 s.size).data.toList=l:=by rw[Kit.Aa,hl]
 have hq2:(s.extract 1 s.size).size<=1000000:=by rw[ByteArray.size_extract];omega
 have h1:(1:Int)<=(s.size:Int):=by omega
 have GQ:=hid (CQ hq2 125 hq (decide_eq_true Bf) hA rfl w)
 have HA: ∀a:ByteArray,a.data.toList=A->a.size=A.length:=fun a h=>by rw[Lib.size_eq,h]
 have mK:A.length<=1000000:=by
  rw[<-hA]
  have e1:=(List.takeWhile_sublist (l:=l) (fun x=>decide (x≠125))).length_le
  have e2:l.length=s.size-1:=by rw[<-hl,List.length_drop,<-Lib.size_eq]
  unfold before
  omega
 clear hq hq2
 go_enter Tryz.func163,Tryz.ntmps163
 go_wp2_with fail
 refine GQ.out.mono ?_
 rintro e w1 ⟨a,b,rfl,ha,hb,l1⟩
 have hal:=HA a ha
 have Ii:=hid (CQ (by omega) 44 ha (decide_eq_false De) hF hG w1)
 have L1:=hid l1
 clear hb l1
 go_wp2_with fail
 refine Ii.out.mono ?_
 rintro e w2 ⟨f,g,rfl,hf,hg,l2⟩
 have L2:=hid (on L1.out l2)
 have HF:=hid hf
 have HG:=hid hg
 have hfs:f.size<=1000000:=by
  rw[Lib.size_eq,hf,<-hF]
  have e1:=(List.takeWhile_sublist (l:=A) (fun x=>decide (x≠44))).length_le
  unfold before
  omega
 have hgs:g.size<=1000000:=by
  rw[Lib.size_eq,hg,<-hG]
  have e1:=(List.dropWhile_sublist (l:=A) (fun x=>decide (x≠44))).length_le
  unfold behind
  rw[List.length_drop]
  omega
 have HE:=DW hg
 clear l2 hf hg
 go_wp2_with fail
 refine(Bu f hfs _).mono ?_
 rintro e w3 ⟨rfl,l3⟩
 have L3:=hid (on L2.out l3)
 rw[HF.out,hfn]
 clear l3
 go_wp2_with fail
 refine bodyPost_ret (BV rfl _ _ _) rfl ?_
 exact⟨rfl,L3.out⟩
theorem Qi {s:ByteArray} (h0:0<s.size) (hs:s.size<=1000000) {l A F G:List UInt8} (hl:s.data.toList.drop 1=l) (hA:before 125 l=A) (hF:before 44 A=F) (hG:behind 44 A=G)
    (Bf:(125:UInt8)∈l) (De:(44:UInt8)∈A) (hfn:isNum F=false) (w:World):Calls Tryz.prog 163 #[.string s] w fun e w'=>e= .returned (Ma Pb)/\Below w.heap.size w w':=by
 have hq:(s.extract 1 s.size).data.toList=l:=by rw[Kit.Aa,hl]
 have hq2:(s.extract 1 s.size).size<=1000000:=by rw[ByteArray.size_extract];omega
 have h1:(1:Int)<=(s.size:Int):=by omega
 have GQ:=hid (CQ hq2 125 hq (decide_eq_true Bf) hA rfl w)
 have HA: ∀a:ByteArray,a.data.toList=A->a.size=A.length:=fun a h=>by rw[Lib.size_eq,h]
 have mK:A.length<=1000000:=by
  rw[<-hA]
  have e1:=(List.takeWhile_sublist (l:=l) (fun x=>decide (x≠125))).length_le
  have e2:l.length=s.size-1:=by rw[<-hl,List.length_drop,<-Lib.size_eq]
  unfold before
  omega
 clear hq hq2
 go_enter Tryz.func163,Tryz.ntmps163
 go_wp2_with fail
 refine GQ.out.mono ?_
 rintro e w1 ⟨a,b,rfl,ha,hb,l1⟩
 have hal:=HA a ha
 have Ii:=hid (CQ (by omega) 44 ha (decide_eq_true De) hF hG w1)
 have L1:=hid l1
 clear hb l1
 go_wp2_with fail
 refine Ii.out.mono ?_
 rintro e w2 ⟨f,g,rfl,hf,hg,l2⟩
 have L2:=hid (on L1.out l2)
 have HF:=hid hf
 have HG:=hid hg
 have hfs:f.size<=1000000:=by
  rw[Lib.size_eq,hf,<-hF]
  have e1:=(List.takeWhile_sublist (l:=A) (fun x=>decide (x≠44))).length_le
  unfold before
  omega
 have hgs:g.size<=1000000:=by
  rw[Lib.size_eq,hg,<-hG]
  have e1:=(List.dropWhile_sublist (l:=A) (fun x=>decide (x≠44))).length_le
  unfold behind
  rw[List.length_drop]
  omega
 have HE:=DW hg
 clear l2 hf hg
 cases hge:g.toList.isEmpty
 ·skip
  go_wp2_with fail
  refine(Bu f hfs _).mono ?_
  rintro e w3 ⟨rfl,l3⟩
  have L3:=hid (on L2.out l3)
  rw[HF.out,hfn]
  clear l3
  go_wp2_with fail
  refine bodyPost_ret (BV rfl _ _ _) rfl ?_
  exact⟨rfl,L3.out⟩
 skip
 go_wp2_with fail
 refine(Bu f hfs _).mono ?_
 rintro e w3 ⟨rfl,l3⟩
 have L3:=hid (on L2.out l3)
 rw[HF.out,hfn]
 clear l3
 go_wp2_with fail
 refine bodyPost_ret (BV rfl _ _ _) rfl ?_
 exact⟨rfl,L3.out⟩
theorem Wz {s:ByteArray} (h0:0<s.size) (hs:s.size<=1000000) {l A F G:List UInt8} (hl:s.data.toList.drop 1=l) (hA:before 125 l=A) (hF:before 44 A=F) (hG:behind 44 A=G)
    (Bf:(125:UInt8)∈l) (De: ¬(44:UInt8)∈A) (hfn:isNum F=true) (hm:Fb (val F) (val F)=true) (w:World):Calls Tryz.prog 163 #[.string s] w fun e w'=>e= .returned (Ma (0,val F,val F,A.length+2))/\Below w.heap.size w w':=by
 have hq:(s.extract 1 s.size).data.toList=l:=by rw[Kit.Aa,hl]
 have hq2:(s.extract 1 s.size).size<=1000000:=by rw[ByteArray.size_extract];omega
 have h1:(1:Int)<=(s.size:Int):=by omega
 have GQ:=hid (CQ hq2 125 hq (decide_eq_true Bf) hA rfl w)
 have HA: ∀a:ByteArray,a.data.toList=A->a.size=A.length:=fun a h=>by rw[Lib.size_eq,h]
 have mK:A.length<=1000000:=by
  rw[<-hA]
  have e1:=(List.takeWhile_sublist (l:=l) (fun x=>decide (x≠125))).length_le
  have e2:l.length=s.size-1:=by rw[<-hl,List.length_drop,<-Lib.size_eq]
  unfold before
  omega
 clear hq hq2
 go_enter Tryz.func163,Tryz.ntmps163
 go_wp2_with fail
 refine GQ.out.mono ?_
 rintro e w1 ⟨a,b,rfl,ha,hb,l1⟩
 have hal:=HA a ha
 have Ii:=hid (CQ (by omega) 44 ha (decide_eq_false De) hF hG w1)
 have L1:=hid l1
 clear hb l1
 go_wp2_with fail
 refine Ii.out.mono ?_
 rintro e w2 ⟨f,g,rfl,hf,hg,l2⟩
 have L2:=hid (on L1.out l2)
 have HF:=hid hf
 have HG:=hid hg
 have hfs:f.size<=1000000:=by
  rw[Lib.size_eq,hf,<-hF]
  have e1:=(List.takeWhile_sublist (l:=A) (fun x=>decide (x≠44))).length_le
  unfold before
  omega
 have hgs:g.size<=1000000:=by
  rw[Lib.size_eq,hg,<-hG]
  have e1:=(List.dropWhile_sublist (l:=A) (fun x=>decide (x≠44))).length_le
  unfold behind
  rw[List.length_drop]
  omega
 have HE:=DW hg
 clear l2 hf hg
 go_wp2_with fail
 refine(Bu f hfs _).mono ?_
 rintro e w3 ⟨rfl,l3⟩
 have L3:=hid (on L2.out l3)
 rw[HF.out,hfn]
 clear l3
 go_wp2_with fail
 refine(Bu f hfs _).mono ?_
 rintro e w4 ⟨rfl,l4⟩
 have L4:=hid (on L3.out l4)
 rw[HF.out,hfn]
 clear l4
 go_wp2_with fail
 refine(EG f (by rw[HF.out];exact hfn) _).mono ?_
 rintro e w5 ⟨rfl,l5⟩
 have L5:=hid (on L4.out l5)
 rw[HF.out]
 clear l5
 go_wp2_with fail
 refine(EG f (by rw[HF.out];exact hfn) _).mono ?_
 rintro e w6 ⟨rfl,l6⟩
 have L6:=hid (on L5.out l6)
 rw[HF.out]
 clear l6
 go_wp2_with fail
 refine(Fe _ _ _).mono ?_
 rintro e w9 ⟨rfl,rfl⟩
 rw[hm]
 have hw:wrap64 ((a.size:Int)+2)=((A.length+2:Nat):Int):=by rw[hal];unfold wrap64;omega
 go_wp2_with fail
 refine bodyPost_ret (BV rfl _ _ _) rfl ?_
 refine⟨?_,L6.out⟩
 first|rfl|(simp only[hw];rfl)
theorem Qj {s:ByteArray} (h0:0<s.size) (hs:s.size<=1000000) {l A F G:List UInt8} (hl:s.data.toList.drop 1=l) (hA:before 125 l=A) (hF:before 44 A=F) (hG:behind 44 A=G)
    (Bf:(125:UInt8)∈l) (De: ¬(44:UInt8)∈A) (hfn:isNum F=true) (hm:Fb (val F) (val F)=false) (w:World):Calls Tryz.prog 163 #[.string s] w fun e w'=>e= .returned (Ma (4,0,0,0))/\Below w.heap.size w w':=by
 have hq:(s.extract 1 s.size).data.toList=l:=by rw[Kit.Aa,hl]
 have hq2:(s.extract 1 s.size).size<=1000000:=by rw[ByteArray.size_extract];omega
 have h1:(1:Int)<=(s.size:Int):=by omega
 have GQ:=hid (CQ hq2 125 hq (decide_eq_true Bf) hA rfl w)
 have HA: ∀a:ByteArray,a.data.toList=A->a.size=A.length:=fun a h=>by rw[Lib.size_eq,h]
 have mK:A.length<=1000000:=by
  rw[<-hA]
  have e1:=(List.takeWhile_sublist (l:=l) (fun x=>decide (x≠125))).length_le
  have e2:l.length=s.size-1:=by rw[<-hl,List.length_drop,<-Lib.size_eq]
  unfold before
  omega
 clear hq hq2
 go_enter Tryz.func163,Tryz.ntmps163
 go_wp2_with fail
 refine GQ.out.mono ?_
 rintro e w1 ⟨a,b,rfl,ha,hb,l1⟩
 have hal:=HA a ha
 have Ii:=hid (CQ (by omega) 44 ha (decide_eq_false De) hF hG w1)
 have L1:=hid l1
 clear hb l1
 go_wp2_with fail
 refine Ii.out.mono ?_
 rintro e w2 ⟨f,g,rfl,hf,hg,l2⟩
 have L2:=hid (on L1.out l2)
 have HF:=hid hf
 have HG:=hid hg
 have hfs:f.size<=1000000:=by
  rw[Lib.size_eq,hf,<-hF]
  have e1:=(List.takeWhile_sublist (l:=A) (fun x=>decide (x≠44))).length_le
  unfold before
  omega
 have hgs:g.size<=1000000:=by
  rw[Lib.size_eq,hg,<-hG]
  have e1:=(List.dropWhile_sublist (l:=A) (fun x=>decide (x≠44))).length_le
  unfold behind
  rw[List.length_drop]
  omega
 have HE:=DW hg
 clear l2 hf hg
 go_wp2_with fail
 refine(Bu f hfs _).mono ?_
 rintro e w3 ⟨rfl,l3⟩
 have L3:=hid (on L2.out l3)
 rw[HF.out,hfn]
 clear l3
 go_wp2_with fail
 refine(Bu f hfs _).mono ?_
 rintro e w4 ⟨rfl,l4⟩
 have L4:=hid (on L3.out l4)
 rw[HF.out,hfn]
 clear l4
 go_wp2_with fail
 refine(EG f (by rw[HF.out];exact hfn) _).mono ?_
 rintro e w5 ⟨rfl,l5⟩
 have L5:=hid (on L4.out l5)
 rw[HF.out]
 clear l5
 go_wp2_with fail
 refine(EG f (by rw[HF.out];exact hfn) _).mono ?_
 rintro e w6 ⟨rfl,l6⟩
 have L6:=hid (on L5.out l6)
 rw[HF.out]
 clear l6
 go_wp2_with fail
 refine(Fe _ _ _).mono ?_
 rintro e w9 ⟨rfl,rfl⟩
 rw[hm]
 go_wp2_with fail
 refine bodyPost_ret (BV rfl _ _ _) rfl ?_
 exact⟨rfl,L6.out⟩
theorem VD {s:ByteArray} (h0:0<s.size) (hs:s.size<=1000000) {l A F G:List UInt8} (hl:s.data.toList.drop 1=l) (hA:before 125 l=A) (hF:before 44 A=F) (hG:behind 44 A=G)
    (Bf:(125:UInt8)∈l) (De:(44:UInt8)∈A) (hfn:isNum F=true) (hge:G= []) (hm:Fb (val F) (-1)=true) (w:World):Calls Tryz.prog 163 #[.string s] w fun e w'=>e= .returned (Ma (0,val F,-1,A.length+2))/\Below w.heap.size w w':=by
 have hq:(s.extract 1 s.size).data.toList=l:=by rw[Kit.Aa,hl]
 have hq2:(s.extract 1 s.size).size<=1000000:=by rw[ByteArray.size_extract];omega
 have h1:(1:Int)<=(s.size:Int):=by omega
 have GQ:=hid (CQ hq2 125 hq (decide_eq_true Bf) hA rfl w)
 have HA: ∀a:ByteArray,a.data.toList=A->a.size=A.length:=fun a h=>by rw[Lib.size_eq,h]
 have mK:A.length<=1000000:=by
  rw[<-hA]
  have e1:=(List.takeWhile_sublist (l:=l) (fun x=>decide (x≠125))).length_le
  have e2:l.length=s.size-1:=by rw[<-hl,List.length_drop,<-Lib.size_eq]
  unfold before
  omega
 clear hq hq2
 go_enter Tryz.func163,Tryz.ntmps163
 go_wp2_with fail
 refine GQ.out.mono ?_
 rintro e w1 ⟨a,b,rfl,ha,hb,l1⟩
 have hal:=HA a ha
 have Ii:=hid (CQ (by omega) 44 ha (decide_eq_true De) hF hG w1)
 have L1:=hid l1
 clear hb l1
 go_wp2_with fail
 refine Ii.out.mono ?_
 rintro e w2 ⟨f,g,rfl,hf,hg,l2⟩
 have L2:=hid (on L1.out l2)
 have HF:=hid hf
 have HG:=hid hg
 have hfs:f.size<=1000000:=by
  rw[Lib.size_eq,hf,<-hF]
  have e1:=(List.takeWhile_sublist (l:=A) (fun x=>decide (x≠44))).length_le
  unfold before
  omega
 have hgs:g.size<=1000000:=by
  rw[Lib.size_eq,hg,<-hG]
  have e1:=(List.dropWhile_sublist (l:=A) (fun x=>decide (x≠44))).length_le
  unfold behind
  rw[List.length_drop]
  omega
 have HE:=DW hg
 clear l2 hf hg
 rw[hge]at HE
 have he:g.toList.isEmpty=true:=HE
 clear HE
 go_wp2_with fail
 refine(Bu f hfs _).mono ?_
 rintro e w3 ⟨rfl,l3⟩
 have L3:=hid (on L2.out l3)
 rw[HF.out,hfn]
 clear l3
 go_wp2_with fail
 refine(EG f (by rw[HF.out];exact hfn) _).mono ?_
 rintro e w4 ⟨rfl,l4⟩
 have L4:=hid (on L3.out l4)
 rw[HF.out]
 clear l4
 go_wp2_with fail
 refine(Fe _ _ _).mono ?_
 rintro e w9 ⟨rfl,rfl⟩
 rw[hm]
 have hw:wrap64 ((a.size:Int)+2)=((A.length+2:Nat):Int):=by rw[hal];unfold wrap64;omega
 go_wp2_with fail
 refine bodyPost_ret (BV rfl _ _ _) rfl ?_
 refine⟨?_,L4.out⟩
 first|rfl|(simp only[hw];rfl)
theorem PG {s:ByteArray} (h0:0<s.size) (hs:s.size<=1000000) {l A F G:List UInt8} (hl:s.data.toList.drop 1=l) (hA:before 125 l=A) (hF:before 44 A=F) (hG:behind 44 A=G)
    (Bf:(125:UInt8)∈l) (De:(44:UInt8)∈A) (hfn:isNum F=true) (hge:G= []) (hm:Fb (val F) (-1)=false) (w:World):Calls Tryz.prog 163 #[.string s] w fun e w'=>e= .returned (Ma (4,0,0,0))/\Below w.heap.size w w':=by
 have hq:(s.extract 1 s.size).data.toList=l:=by rw[Kit.Aa,hl]
 have hq2:(s.extract 1 s.size).size<=1000000:=by rw[ByteArray.size_extract];omega
 have h1:(1:Int)<=(s.size:Int):=by omega
 have GQ:=hid (CQ hq2 125 hq (decide_eq_true Bf) hA rfl w)
 have HA: ∀a:ByteArray,a.data.toList=A->a.size=A.length:=fun a h=>by rw[Lib.size_eq,h]
 have mK:A.length<=1000000:=by
  rw[<-hA]
  have e1:=(List.takeWhile_sublist (l:=l) (fun x=>decide (x≠125))).length_le
  have e2:l.length=s.size-1:=by rw[<-hl,List.length_drop,<-Lib.size_eq]
  unfold before
  omega
 clear hq hq2
 go_enter Tryz.func163,Tryz.ntmps163
 go_wp2_with fail
 refine GQ.out.mono ?_
 rintro e w1 ⟨a,b,rfl,ha,hb,l1⟩
 have hal:=HA a ha
 have Ii:=hid (CQ (by omega) 44 ha (decide_eq_true De) hF hG w1)
 have L1:=hid l1
 clear hb l1
 go_wp2_with fail
 refine Ii.out.mono ?_
 rintro e w2 ⟨f,g,rfl,hf,hg,l2⟩
 have L2:=hid (on L1.out l2)
 have HF:=hid hf
 have HG:=hid hg
 have hfs:f.size<=1000000:=by
  rw[Lib.size_eq,hf,<-hF]
  have e1:=(List.takeWhile_sublist (l:=A) (fun x=>decide (x≠44))).length_le
  unfold before
  omega
 have hgs:g.size<=1000000:=by
  rw[Lib.size_eq,hg,<-hG]
  have e1:=(List.dropWhile_sublist (l:=A) (fun x=>decide (x≠44))).length_le
  unfold behind
  rw[List.length_drop]
  omega
 have HE:=DW hg
 clear l2 hf hg
 rw[hge]at HE
 have he:g.toList.isEmpty=true:=HE
 clear HE
 go_wp2_with fail
 refine(Bu f hfs _).mono ?_
 rintro e w3 ⟨rfl,l3⟩
 have L3:=hid (on L2.out l3)
 rw[HF.out,hfn]
 clear l3
 go_wp2_with fail
 refine(EG f (by rw[HF.out];exact hfn) _).mono ?_
 rintro e w4 ⟨rfl,l4⟩
 have L4:=hid (on L3.out l4)
 rw[HF.out]
 clear l4
 go_wp2_with fail
 refine(Fe _ _ _).mono ?_
 rintro e w9 ⟨rfl,rfl⟩
 rw[hm]
 go_wp2_with fail
 refine bodyPost_ret (BV rfl _ _ _) rfl ?_
 exact⟨rfl,L4.out⟩
theorem Qk {s:ByteArray} (h0:0<s.size) (hs:s.size<=1000000) {l A F G:List UInt8} (hl:s.data.toList.drop 1=l) (hA:before 125 l=A) (hF:before 44 A=F) (hG:behind 44 A=G)
    (Bf:(125:UInt8)∈l) (De:(44:UInt8)∈A) (hfn:isNum F=true) (hge: ¬G= []) (hgn:isNum G=false) (w:World):Calls Tryz.prog 163 #[.string s] w fun e w'=>e= .returned (Ma Pb)/\Below w.heap.size w w':=by
 have hq:(s.extract 1 s.size).data.toList=l:=by rw[Kit.Aa,hl]
 have hq2:(s.extract 1 s.size).size<=1000000:=by rw[ByteArray.size_extract];omega
 have h1:(1:Int)<=(s.size:Int):=by omega
 have GQ:=hid (CQ hq2 125 hq (decide_eq_true Bf) hA rfl w)
 have HA: ∀a:ByteArray,a.data.toList=A->a.size=A.length:=fun a h=>by rw[Lib.size_eq,h]
 have mK:A.length<=1000000:=by
  rw[<-hA]
  have e1:=(List.takeWhile_sublist (l:=l) (fun x=>decide (x≠125))).length_le
  have e2:l.length=s.size-1:=by rw[<-hl,List.length_drop,<-Lib.size_eq]
  unfold before
  omega
 clear hq hq2
 go_enter Tryz.func163,Tryz.ntmps163
 go_wp2_with fail
 refine GQ.out.mono ?_
 rintro e w1 ⟨a,b,rfl,ha,hb,l1⟩
 have hal:=HA a ha
 have Ii:=hid (CQ (by omega) 44 ha (decide_eq_true De) hF hG w1)
 have L1:=hid l1
 clear hb l1
 go_wp2_with fail
 refine Ii.out.mono ?_
 rintro e w2 ⟨f,g,rfl,hf,hg,l2⟩
 have L2:=hid (on L1.out l2)
 have HF:=hid hf
 have HG:=hid hg
 have hfs:f.size<=1000000:=by
  rw[Lib.size_eq,hf,<-hF]
  have e1:=(List.takeWhile_sublist (l:=A) (fun x=>decide (x≠44))).length_le
  unfold before
  omega
 have hgs:g.size<=1000000:=by
  rw[Lib.size_eq,hg,<-hG]
  have e1:=(List.dropWhile_sublist (l:=A) (fun x=>decide (x≠44))).length_le
  unfold behind
  rw[List.length_drop]
  omega
 have HE:=DW hg
 clear l2 hf hg
 have he:g.toList.isEmpty=false:=by rw[HE];cases G with|nil=>exact absurd rfl hge|cons _ _=>rfl
 clear HE
 go_wp2_with fail
 refine(Bu f hfs _).mono ?_
 rintro e w3 ⟨rfl,l3⟩
 have L3:=hid (on L2.out l3)
 rw[HF.out,hfn]
 clear l3
 go_wp2_with fail
 refine(Bu g hgs _).mono ?_
 rintro e w4 ⟨rfl,l4⟩
 have L4:=hid (on L3.out l4)
 rw[HG.out,hgn]
 clear l4
 go_wp2_with fail
 refine bodyPost_ret (BV rfl _ _ _) rfl ?_
 exact⟨rfl,L4.out⟩
theorem W9 {s:ByteArray} (h0:0<s.size) (hs:s.size<=1000000) {l A F G:List UInt8} (hl:s.data.toList.drop 1=l) (hA:before 125 l=A) (hF:before 44 A=F) (hG:behind 44 A=G)
    (Bf:(125:UInt8)∈l) (De:(44:UInt8)∈A) (hfn:isNum F=true) (hge: ¬G= []) (hgn:isNum G=true) (hm:Fb (val F) (val G)=true) (w:World):Calls Tryz.prog 163 #[.string s] w fun e w'=>e= .returned (Ma (0,val F,val G,A.length+2))/\Below w.heap.size w w':=by
 have hq:(s.extract 1 s.size).data.toList=l:=by rw[Kit.Aa,hl]
 have hq2:(s.extract 1 s.size).size<=1000000:=by rw[ByteArray.size_extract];omega
 have h1:(1:Int)<=(s.size:Int):=by omega
 have GQ:=hid (CQ hq2 125 hq (decide_eq_true Bf) hA rfl w)
 have HA: ∀a:ByteArray,a.data.toList=A->a.size=A.length:=fun a h=>by rw[Lib.size_eq,h]
 have mK:A.length<=1000000:=by
  rw[<-hA]
  have e1:=(List.takeWhile_sublist (l:=l) (fun x=>decide (x≠125))).length_le
  have e2:l.length=s.size-1:=by rw[<-hl,List.length_drop,<-Lib.size_eq]
  unfold before
  omega
 clear hq hq2
 go_enter Tryz.func163,Tryz.ntmps163
 go_wp2_with fail
 refine GQ.out.mono ?_
 rintro e w1 ⟨a,b,rfl,ha,hb,l1⟩
 have hal:=HA a ha
 have Ii:=hid (CQ (by omega) 44 ha (decide_eq_true De) hF hG w1)
 have L1:=hid l1
 clear hb l1
 go_wp2_with fail
 refine Ii.out.mono ?_
 rintro e w2 ⟨f,g,rfl,hf,hg,l2⟩
 have L2:=hid (on L1.out l2)
 have HF:=hid hf
 have HG:=hid hg
 have hfs:f.size<=1000000:=by
  rw[Lib.size_eq,hf,<-hF]
  have e1:=(List.takeWhile_sublist (l:=A) (fun x=>decide (x≠44))).length_le
  unfold before
  omega
 have hgs:g.size<=1000000:=by
  rw[Lib.size_eq,hg,<-hG]
  have e1:=(List.dropWhile_sublist (l:=A) (fun x=>decide (x≠44))).length_le
  unfold behind
  rw[List.length_drop]
  omega
 have HE:=DW hg
 clear l2 hf hg
 have he:g.toList.isEmpty=false:=by rw[HE];cases G with|nil=>exact absurd rfl hge|cons _ _=>rfl
 clear HE
 go_wp2_with fail
 refine(Bu f hfs _).mono ?_
 rintro e w3 ⟨rfl,l3⟩
 have L3:=hid (on L2.out l3)
 rw[HF.out,hfn]
 clear l3
 go_wp2_with fail
 refine(Bu g hgs _).mono ?_
 rintro e w4 ⟨rfl,l4⟩
 have L4:=hid (on L3.out l4)
 rw[HG.out,hgn]
 clear l4
 go_wp2_with fail
 refine(EG f (by rw[HF.out];exact hfn) _).mono ?_
 rintro e w5 ⟨rfl,l5⟩
 have L5:=hid (on L4.out l5)
 rw[HF.out]
 clear l5
 go_wp2_with fail
 refine(EG g (by rw[HG.out];exact hgn) _).mono ?_
 rintro e w6 ⟨rfl,l6⟩
 have L6:=hid (on L5.out l6)
 rw[HG.out]
 clear l6
 go_wp2_with fail
 refine(Fe _ _ _).mono ?_
 rintro e w9 ⟨rfl,rfl⟩
 rw[hm]
 have hw:wrap64 ((a.size:Int)+2)=((A.length+2:Nat):Int):=by rw[hal];unfold wrap64;omega
 go_wp2_with fail
 refine bodyPost_ret (BV rfl _ _ _) rfl ?_
 refine⟨?_,L6.out⟩
 first|rfl|(simp only[hw];rfl)
theorem Ql {s:ByteArray} (h0:0<s.size) (hs:s.size<=1000000) {l A F G:List UInt8} (hl:s.data.toList.drop 1=l) (hA:before 125 l=A) (hF:before 44 A=F) (hG:behind 44 A=G)
    (Bf:(125:UInt8)∈l) (De:(44:UInt8)∈A) (hfn:isNum F=true) (hge: ¬G= []) (hgn:isNum G=true) (hm:Fb (val F) (val G)=false) (w:World):Calls Tryz.prog 163 #[.string s] w fun e w'=>e= .returned (Ma (4,0,0,0))/\Below w.heap.size w w':=by
 have hq:(s.extract 1 s.size).data.toList=l:=by rw[Kit.Aa,hl]
 have hq2:(s.extract 1 s.size).size<=1000000:=by rw[ByteArray.size_extract];omega
 have h1:(1:Int)<=(s.size:Int):=by omega
 have GQ:=hid (CQ hq2 125 hq (decide_eq_true Bf) hA rfl w)
 have HA: ∀a:ByteArray,a.data.toList=A->a.size=A.length:=fun a h=>by rw[Lib.size_eq,h]
 have mK:A.length<=1000000:=by
  rw[<-hA]
  have e1:=(List.takeWhile_sublist (l:=l) (fun x=>decide (x≠125))).length_le
  have e2:l.length=s.size-1:=by rw[<-hl,List.length_drop,<-Lib.size_eq]
  unfold before
  omega
 clear hq hq2
 go_enter Tryz.func163,Tryz.ntmps163
 go_wp2_with fail
 refine GQ.out.mono ?_
 rintro e w1 ⟨a,b,rfl,ha,hb,l1⟩
 have hal:=HA a ha
 have Ii:=hid (CQ (by omega) 44 ha (decide_eq_true De) hF hG w1)
 have L1:=hid l1
 clear hb l1
 go_wp2_with fail
 refine Ii.out.mono ?_
 rintro e w2 ⟨f,g,rfl,hf,hg,l2⟩
 have L2:=hid (on L1.out l2)
 have HF:=hid hf
 have HG:=hid hg
 have hfs:f.size<=1000000:=by
  rw[Lib.size_eq,hf,<-hF]
  have e1:=(List.takeWhile_sublist (l:=A) (fun x=>decide (x≠44))).length_le
  unfold before
  omega
 have hgs:g.size<=1000000:=by
  rw[Lib.size_eq,hg,<-hG]
  have e1:=(List.dropWhile_sublist (l:=A) (fun x=>decide (x≠44))).length_le
  unfold behind
  rw[List.length_drop]
  omega
 have HE:=DW hg
 clear l2 hf hg
 have he:g.toList.isEmpty=false:=by rw[HE];cases G with|nil=>exact absurd rfl hge|cons _ _=>rfl
 clear HE
 go_wp2_with fail
 refine(Bu f hfs _).mono ?_
 rintro e w3 ⟨rfl,l3⟩
 have L3:=hid (on L2.out l3)
 rw[HF.out,hfn]
 clear l3
 go_wp2_with fail
 refine(Bu g hgs _).mono ?_
 rintro e w4 ⟨rfl,l4⟩
 have L4:=hid (on L3.out l4)
 rw[HG.out,hgn]
 clear l4
 go_wp2_with fail
 refine(EG f (by rw[HF.out];exact hfn) _).mono ?_
 rintro e w5 ⟨rfl,l5⟩
 have L5:=hid (on L4.out l5)
 rw[HF.out]
 clear l5
 go_wp2_with fail
 refine(EG g (by rw[HG.out];exact hgn) _).mono ?_
 rintro e w6 ⟨rfl,l6⟩
 have L6:=hid (on L5.out l6)
 rw[HG.out]
 clear l6
 go_wp2_with fail
 refine(Fe _ _ _).mono ?_
 rintro e w9 ⟨rfl,rfl⟩
 rw[hm]
 go_wp2_with fail
 refine bodyPost_ret (BV rfl _ _ _) rfl ?_
 exact⟨rfl,L6.out⟩
theorem W_ {s:ByteArray} (h0:0<s.size) (hs:s.size<=1000000) (w:World):Calls Tryz.prog 163 #[.string s] w fun e w'=>e= .returned (Ma (Cr (s.data.toList.drop 1)))/\Below w.heap.size w w':=by
 obtain⟨l,hl⟩: ∃l,s.data.toList.drop 1=l:=⟨_,rfl⟩
 rw[hl]
 by_cases Bf:(125:UInt8)∈l
 ·by_cases De:(44:UInt8)∈before 125 l
  ·cases hfn:isNum (Dn l)with
   |false=>
    rw[JG (by unfold Jd;rw[hfn];simp)]
    exact Qi h0 hs hl rfl rfl rfl Bf De hfn w
   |true=>
    by_cases hge:behind 44 (before 125 l)= []
    ·have ho:Gu l=true:=by unfold Gu;rw[decide_eq_true De,decide_eq_true hge];rfl
     have ht:Nb l= -1:=by unfold Nb;rw[ho,if_pos rfl]
     rw[Jt (by unfold Jd;rw[decide_eq_true Bf,hfn,ho];rfl),ht,Na (by omega) (by omega)]
     cases hm:Fb (val (Dn l)) (-1)with
     |true=>exact VD h0 hs hl rfl rfl rfl Bf De hfn hge hm w
     |false=>exact PG h0 hs hl rfl rfl rfl Bf De hfn hge hm w
    have ho:Gu l=false:=by unfold Gu;rw[decide_eq_true De,decide_eq_false hge];rfl
    have h2:EK l=behind 44 (before 125 l):=by unfold EK;rw[if_pos De]
    cases hgn:isNum (behind 44 (before 125 l))with
    |false=>
     rw[JG (by unfold Jd;rw[h2,hgn,ho];simp)]
     exact Qk h0 hs hl rfl rfl rfl Bf De hfn hge hgn w
    |true=>
     have ht:Nb l=val (behind 44 (before 125 l)):=by unfold Nb;rw[ho,if_neg (by simp),h2]
     rw[Jt (by unfold Jd;rw[decide_eq_true Bf,hfn,ho,h2,hgn];rfl),ht,Na (by omega) (by omega)]
     cases hm:Fb (val (Dn l)) (val (behind 44 (before 125 l)))with
     |true=>exact W9 h0 hs hl rfl rfl rfl Bf De hfn hge hgn hm w
     |false=>exact Ql h0 hs hl rfl rfl rfl Bf De hfn hge hgn hm w
  have ho:Gu l=false:=by unfold Gu;rw[decide_eq_false De,Bool.false_and]
  have h2:EK l=Dn l:=by unfold EK;rw[if_neg De]
  cases hfn:isNum (Dn l)with
  |false=>
   rw[JG (by unfold Jd;rw[hfn];simp)]
   exact Qh h0 hs hl rfl rfl rfl Bf De hfn w
  |true=>
   have ht:Nb l=val (Dn l):=by unfold Nb;rw[ho,if_neg (by simp),h2]
   rw[Jt (by unfold Jd;rw[decide_eq_true Bf,hfn,ho,h2,hfn];rfl),ht,Na (by omega) (by omega)]
   cases hm:Fb (val (Dn l)) (val (Dn l))with
   |true=>exact Wz h0 hs hl rfl rfl rfl Bf De hfn hm w
   |false=>exact Qj h0 hs hl rfl rfl rfl Bf De hfn hm w
 rw[JG (by unfold Jd;rw[decide_eq_false Bf];rfl)]
 by_cases De:(44:UInt8)∈before 125 l
 ·exact Sm h0 hs hl rfl rfl rfl Bf De w
 exact Sl h0 hs hl rfl rfl rfl Bf De w
end W14
namespace FD
open Ew BU
open Kit (Au AX BO CL Ae BM below_draws on)
def bv (f:Nat->Bool) (i:Nat):Value:= .bool (f i)
theorem Dk {f g:Nat->Bool} {i:Nat} (h:f i=g i):bv f i=bv g i:=by unfold bv;rw[h]
theorem qp (f:Nat->Bool) (i:Nat):(bv f i).oneCell'=true:=rfl
theorem iP:(Tryz.prog.info? 174).map (fun i=>(i.zero,i.size))=some (some (Value.agg (Array.replicate 256 (.bool false))),256):=by kernel_rfl
theorem Ez (w:World):(zeroValue 174).run Tryz.prog w= .ok (.agg (BZ (bv fun _=>false))) w:=by
 have h:=(zero_of_info iP).1 w
 rw[Tw]at h;exact h
theorem qw:(Tryz.prog.info? 174).map (·.size)=some 256:=(zero_of_info iP).2
theorem Mc (g:Nat->Value):(Tryz.prog.info? 174).map (·.size)=some (BZ g).size:=by rw[Gj];exact qw
theorem Dl {ops:Array Oper} {rest:List Oper} {o:Oper} {a:Act} {w:World} {Q:Exit->Act->World->Prop} (hgd:o.guard=none) (x:Operand) (ho:o.op= .load 174 x)
    {b:Nat} (hx:a.eval x= .pointer (some ⟨b,0,none⟩)) {t:TypeId} {f:Nat->Value} (hr:Row w b t f) (h:wpList Tryz.prog ops Q rest (a.put o.dst (.agg (BZ f))) w):wpList Tryz.prog ops Q (o::rest) a w:=
 wpList_load_row hgd 174 x ho b hx t (BZ f) (0,0) _ hr Tryz.underlying174 rfl (Mc f) h
theorem Bq {ops:Array Oper} {rest:List Oper} {o:Oper} {a:Act} {w:World} {Q:Exit->Act->World->Prop} (hgd:o.guard=none) (x y:Operand) (ho:o.op= .store 174 x y)
    {b:Nat} {f:Nat->Bool} {g:Nat->Value} (hx:a.eval x= .pointer (some ⟨b,0,none⟩)) (hy:a.eval y= .agg (BZ (bv f))) {t:TypeId} (hr:Row w b t g)
    (h: ∀w',Row w' b t (bv f)->Beside b w w'->wpList Tryz.prog ops Q rest (a.put o.dst undef) w'):wpList Tryz.prog ops Q (o::rest) a w:=
 wpList_store_row hgd 174 x y ho b (BZ (bv f)) hx hy t (BZ g) hr (Mc _) (by rw[Gj,Gj]) (iB (qp f))
  (h _ (hr.set _) ⟨rfl,rfl,rfl,by rw[setRow_size];exact Nat.le_refl _,fun k _ e=>setRow_other w b k _ e⟩)
theorem Fx {fn:Func} {R:Ending->World->Prop} {a:Act} {w:World} {p:Tmp} {b:Nat} {t:TypeId} {f:Nat->Value} (hf:fn.results= #[.cell p 174]) (hp:a.tmps.getD p undef= .pointer (some ⟨b,0,none⟩)) (hr:Row w b t f) (hd:a.defers= [])
    (hR:R (.returned (.agg (BZ f))) w):bodyPost Tryz.prog fn R .ret a w:=
 bodyPost_ret (results_cell_row hf a.tmps w b t (BZ f) (0,0) _ hp hr Tryz.underlying174 rfl (Mc f)) hd hR
theorem row_step {w:World} {b i:Nat} {t:TypeId} {F G:Nat->Bool} {v:Bool} (h:Row w b t (bv fun j=>if j<i then F j else G j)) (hv:v=F i):Row (w.setCell ⟨b,i,none⟩ (.bool v)) b t (bv fun j=>if j<i+1 then F j else G j):=by
 refine(h.put i (.bool v)).is fun j _=> ?_
 by_cases e:j=i
 ·subst e
  rw[if_pos rfl,hv]
  exact Dk (f:=fun _=>F j) (by rw[if_pos (by omega)])
 rw[if_neg e]
 refine Dk ?_
 by_cases e2:j<i
 ·rw[if_pos e2,if_pos (by omega)]
 rw[if_neg e2,if_neg (by omega)]
theorem Ij {w:World} {b:Nat} {t:TypeId} {f:Nat->Bool} (h:Row w b t (bv f)) (a c:UInt8):
    Calls Tryz.prog 186 #[.pointer (some ⟨b,0,none⟩),.int .u8 a.toNat,.int .u8 c.toNat] w fun e w'=>e= .returned (.tuple #[])/\Row w' b t (bv fun i=>f i||between a.toNat c.toNat i)/\Beside b w w':=by
 have HC:=hid h
 clear h
 have hc256:c.toNat<256:=UInt8.toNat_lt c
 have uX:a.toNat<256:=UInt8.toNat_lt a
 go_enter Tryz.func186,Tryz.ntmps186
 go_wp2_with fail
 go_loopg [6] (c.toNat+1-a.toNat) (fun g s6 wr=> ∃i:Nat,s6= .int .i64 i/\a.toNat<=i/\(i+g=c.toNat+1\/g=0/\c.toNat<i)/\Hid (Row wr b t (bv fun j=>f j||(decide (a.toNat<=j)&&decide (j<i)&&decide (j<=c.toNat))))/\Hid (Beside b w wr))
 case atStart=>
  refine⟨a.toNat,rfl,Nat.le_refl _,by omega,HC.out.is fun j _=>Dk ?_,Beside.refl _ _⟩
  have e:(decide (a.toNat<=j)&&decide (j<a.toNat))=false:=by simp
  rw[e,Bool.false_and,Bool.or_false]
 case round=>
  obtain⟨i,rfl,hai,hig,hr,hb⟩:=hrel
  cases gk with
  |zero=>
   have hi:c.toNat<i:=by omega
   have hi2: ¬((i:Int)<=(c.toNat:Int)):=by omega
   have HI:=hid hi
   clear hi hig
   go_wp2
   go_end0
   refine⟨rfl,hr.out.is fun j _=>Dk ?_,hb.out⟩
   unfold between
   by_cases e:j<=c.toNat
   ·have:=HI.out
    rw[decide_eq_true (show j<i by omega),Bool.and_true]
   rw[decide_eq_false e,Bool.and_false,Bool.and_false]
  |succ g=>
   have hi:i<=c.toNat:=by omega
   have hi2:(i:Int)<=(c.toNat:Int):=by omega
   have hi3:(i:Int)<256:=by omega
   have hcell:=hr.out.cell (i:=i) (by omega)
   have hfree:=hr.out.free i
   generalize hold:bv (fun j=>f j||(decide (a.toNat<=j)&&decide (j<i)&&decide (j<=c.toNat))) i=old at hcell
   clear hold
   go_wp2
   go_roundg g
   case measure=>omega
   case rel=>
    refine⟨i+1,by first|rfl|simp,by omega,by omega,(hr.out.put i (.bool true)).is fun j _=> ?_,hb.out.put i _⟩
    by_cases e:j=i
    ·subst e
     rw[if_pos rfl]
     refine(Dk (f:=fun _=>true) ?_)
     rw[decide_eq_true hai,decide_eq_true (show j<j+1 by omega),decide_eq_true hi,Bool.and_true,Bool.and_true,Bool.or_true]
    rw[if_neg e]
    refine Dk ?_
    rw[show decide (j<i+1)=decide (j<i)from decide_eq_decide.2 (by omega)]
end FD
namespace FD
open Ew BU
open Kit (Au AX BO CL Ae BM below_draws on)
theorem Gv (f:Nat->Bool) (w:World):
    Calls Tryz.prog 174 #[.agg (BZ (bv f))] w fun e w'=>e= .returned (.agg (BZ (bv fun i=> !f i)))/\Below w.heap.size w w':=by
 have hz:=Ez
 go_enter Tryz.func174,Tryz.ntmps174
 go_wp2_with fail
 have hn1:Row (w.alloc (.cells (BZ (bv f)) 174)) w.heap.size 174 (bv f):=Row.new _ _ _
 have hn2:=Row.new (w.alloc (.cells (BZ (bv f)) 174)) 174 (bv fun _=>false)
 rw[World.size_alloc]at hn2
 have HN:=hid (And.intro (hn1.alloc (.cells (BZ (bv fun _=>false)) 174)) hn2)
 have HB:=hid ((Below.refl w.heap.size w).alloc (Nat.le_refl _) (.cells (BZ (bv f)) 174) |>.alloc (by rw[World.size_alloc];omega) (.cells (BZ (bv fun _=>false)) 174))
 clear hn1 hn2 hz
 generalize ((w.alloc (.cells (BZ (bv f)) 174)).alloc (.cells (BZ (bv fun _=>false)) 174))=w1 at HN HB ⊢
 go_loopg [4] 256 (fun g s4 wr=> ∃i:Nat,s4= .int .i64 i/\i+g=256/\Hid (Row wr w.heap.size 174 (bv fun j=>if j<i then !f j else f j))/\Hid (Row wr (w.heap.size+1) 174 (bv fun _=>false))/\Hid (Below w.heap.size w wr))
 case atStart=>exact⟨0,rfl,rfl,HN.out.1.is fun j _=>Dk (by rw[if_neg (by omega)]),HN.out.2,HB⟩
 case round=>
  obtain⟨i,rfl,hig,hr,hz,hb⟩:=hrel
  cases gk with
  |zero=>
   obtain rfl:i=256:=by omega
   go_wp2_with (first|(refine Dl rfl (.tmp 1) rfl rfl hr.out ?_)|(refine Bq rfl (.tmp 2) (.tmp 14) rfl rfl rfl hz.out ?_;intro wz hrz hbz;have HR:=hid hrz;have HZ:=hid hbz;clear hrz hbz))
   refine Fx rfl rfl (HR.out.is (k:=bv fun i=> !f i) fun j hj=>Dk (by rw[if_pos hj])) rfl ⟨rfl,?_⟩
   exact hb.out.trans (HZ.out.below hb.out.size (by omega))
  |succ g=>
   have hi3:(i:Int)<256:=by omega
   have hcell:=hr.out.cell (i:=i) (by omega)
   have hfree:=hr.out.free i
   have hval:bv (fun j=>if j<i then !f j else f j) i= .bool (f i):=Dk (f:=_) (g:=f) (by rw[if_neg (by omega)])
   rw[hval]at hcell
   clear hval
   go_wp2
   go_roundg g
   case measure=>omega
   case rel=>
    exact⟨i+1,by first|rfl|simp,by omega,row_step hr.out rfl,hz.out.other (by simp) _,hb.out.setCell (Nat.le_refl _) _⟩
theorem nV {w:World} {b:Nat} {t:TypeId} {f:Nat->Bool} (h:Row w b t (bv f)) (m:Nat->Bool):
    Calls Tryz.prog 191 #[.pointer (some ⟨b,0,none⟩),.agg (BZ (bv m))] w fun e w'=>e= .returned (.tuple #[])/\Row w' b t (bv fun i=>f i||m i)/\Beside b w w':=by
 have hlt:=h.lt
 have HC:=hid h
 clear h
 go_enter Tryz.func191,Tryz.ntmps191
 go_wp2_with fail
 have HN:=hid (Row.new w 174 (bv m))
 have HB:Hid (Row (w.alloc (.cells (BZ (bv m)) 174)) b t (bv f)/\Beside b w (w.alloc (.cells (BZ (bv m)) 174))):=⟨HC.out.alloc _,Beside.of ((Below.refl w.heap.size w).alloc (Nat.le_refl _) _)⟩
 generalize (w.alloc (.cells (BZ (bv m)) 174))=w1 at HN HB ⊢
 have HL:=hid hlt
 obtain⟨d,hd⟩: ∃d,w.heap.size=d:=⟨_,rfl⟩
 rw[hd]at HN HL ⊢
 clear hlt HC
 have HD:=hid hd
 clear hd
 go_loopg [5] 256 (fun g s5 wr=> ∃i:Nat,s5= .int .i64 i/\i+g=256/\Hid (Row wr b t (bv fun j=>if j<i then f j||m j else f j))/\Hid (Row wr d 174 (bv m))/\Hid (Beside b w wr))
 case atStart=>exact⟨0,rfl,rfl,HB.out.1.is fun j _=>Dk (by rw[if_neg (by omega)]),HN,HB.out.2⟩
 case round=>
  obtain⟨i,rfl,hig,hr,hz,hb⟩:=hrel
  cases gk with
  |zero=>
   obtain rfl:i=256:=by omega
   go_wp2_with fail
   go_end0
   exact⟨rfl,hr.out.is fun j hj=>Dk (by rw[if_pos hj]),hb.out⟩
  |succ g=>
   have hi3:(i:Int)<256:=by omega
   have hcell:=hr.out.cell (i:=i) (by omega)
   have hfree:=hr.out.free i
   have hval:bv (fun j=>if j<i then f j||m j else f j) i= .bool (f i):=Dk (f:=_) (g:=f) (by rw[if_neg (by omega)])
   rw[hval]at hcell
   have hcell2:wr.cell? ⟨d,i,none⟩=some (.bool (m i)):=hz.out.cell (i:=i) (by omega)
   clear hval
   cases hf:f i with
   |true=>
    rw[hf]at hcell
    go_wp2_with fail
    go_region
    go_wp2_with fail
    go_roundg g
    case measure=>omega
    case rel=>
     refine⟨i+1,by first|rfl|simp,by omega,row_step hr.out (by rw[hf];rfl),(hz.out.other (a:=⟨b,i,none⟩) (by have:=HL.out;simp only;omega) _),?_⟩
     exact(hb.out.put i _).trans ⟨rfl,rfl,rfl,Nat.le_refl _,fun _ _ _=>rfl⟩
   |false=>
    rw[hf]at hcell
    go_wp2_with fail
    go_region
    go_wp2_with fail
    go_roundg g
    case measure=>omega
    case rel=>
     refine⟨i+1,by first|rfl|simp,by omega,row_step hr.out (by rw[hf];rfl),(hz.out.other (a:=⟨b,i,none⟩) (by have:=HL.out;simp only;omega) _),?_⟩
     exact(hb.out.put i _).trans ⟨rfl,rfl,rfl,Nat.le_refl _,fun _ _ _=>rfl⟩
theorem XA (s:ByteArray) (w:World) (hs: ∀w,Calls Tryz.prog 158 #[.string s] w fun e w'=>e= .returned (.bool (good s.data.toList))/\w'=w):
    Calls Tryz.prog 175 #[.string s] w fun e w'=>e= .returned (.agg (BZ (bv (has s.data.toList))))/\Below w.heap.size w w':=by
 have hz:=Ez
 have HS:=hid hs
 clear hs
 go_enter Tryz.func175,Tryz.ntmps175
 go_wp2_with fail
 have hn1:Row (w.alloc (.cells (BZ (bv fun _=>false)) 174)) w.heap.size 174 (bv fun _=>false):=Row.new _ _ _
 have hn2:=Row.new (w.alloc (.cells (BZ (bv fun _=>false)) 174)) 174 (bv fun _=>false)
 rw[World.size_alloc]at hn2
 have HN:=hid (And.intro (hn1.alloc (.cells (BZ (bv fun _=>false)) 174)) hn2)
 have HB:=hid ((Below.refl w.heap.size w).alloc (Nat.le_refl _) (.cells (BZ (bv fun _=>false)) 174) |>.alloc (by rw[World.size_alloc];omega) (.cells (BZ (bv fun _=>false)) 174))
 clear hn1 hn2 hz
 generalize ((w.alloc (.cells (BZ (bv fun _=>false)) 174)).alloc (.cells (BZ (bv fun _=>false)) 174))=w1 at HN HB ⊢
 refine(HS.out w1).mono ?_
 rintro e w' ⟨rfl,rfl⟩
 cases hg:good s.data.toList with
 |false=>
  have HG:=hid hg
  clear hg
  go_wp2_with (first|(refine Dl rfl (.tmp 3) rfl rfl HN.out.2 ?_)|(refine Bq rfl (.tmp 2) (.tmp 8) rfl rfl rfl HN.out.1 ?_;intro wz hrz hbz;have HR:=hid hrz;have HZ:=hid hbz;clear hrz hbz))
  refine Fx rfl rfl (HR.out.is (k:=bv (has s.data.toList)) fun j hj=>Dk (PZ HG.out j).symm) rfl ⟨rfl,?_⟩
  exact HB.out.trans (HZ.out.below HB.out.size (Nat.le_refl _))
 |true=>
  have hsz:s.size=256:=by rw[Lib.size_eq];exact MN hg
  have HG:=hid hg
  clear hg
  have YX:=hid hsz
  clear hsz
  go_wp2_with fail
  go_loopg [9] 256 (fun g s9 wr=> ∃i:Nat,s9= .int .i64 i/\i+g=256/\Hid (Row wr (w.heap.size+1) 174 (bv fun j=>if j<i then has s.data.toList j else false))/\Hid (Row wr w.heap.size 174 (bv fun _=>false))/\Hid (Below w.heap.size w wr))
  case atStart=>exact⟨0,rfl,rfl,HN.out.2.is fun j _=>Dk (by rw[if_neg (by omega)]),HN.out.1,HB⟩
  case round=>
   obtain⟨i,rfl,hig,hr,hz,hb⟩:=hrel
   cases gk with
   |zero=>
    obtain rfl:i=256:=by omega
    go_wp2_with (first|(refine Dl rfl (.tmp 3) rfl rfl hr.out ?_)|(refine Bq rfl (.tmp 2) (.tmp 19) rfl rfl rfl hz.out ?_;intro wz hrz hbz;have HR:=hid hrz;have HZ:=hid hbz;clear hrz hbz))
    refine Fx rfl rfl (HR.out.is (k:=bv (has s.data.toList)) fun j hj=>Dk (by rw[if_pos hj])) rfl ⟨rfl,?_⟩
    exact hb.out.trans (HZ.out.below hb.out.size (by omega))
   |succ g=>
    have hsz:=YX.out
    have hi:i<s.size:=by omega
    have hi3:(i:Int)<256:=by omega
    have hcell:=hr.out.cell (i:=i) (by omega)
    have hfree:=hr.out.free i
    generalize hold:bv (fun j=>if j<i then has s.data.toList j else false) i=old at hcell
    clear hold
    have hval:((s[i].toNat:Int)==49)=has s.data.toList i:=by
     rw[MM HG.out,Kit.CO s i hi]
     exact decide_eq_decide.2 ⟨fun h=>UInt8.toNat_inj.1 (show s[i].toNat=49 by omega),fun h=>by rw[h];rfl⟩
    have HV:=hid hval
    clear hval
    go_wp2
    go_roundg g
    case measure=>omega
    case rel=>
     refine⟨i+1,by first|rfl|simp,by omega,row_step hr.out ?_,hz.out.other (by simp) _,hb.out.setCell (by simp) _⟩
     exact HV.out
end FD
namespace FD
open Ew BU
open Kit (Au AX BO CL Ae BM below_draws on)
theorem Ik (s:ByteArray) (w:World):Calls Tryz.prog 158 #[.string s] w fun e w'=>e= .returned (.bool (good s.data.toList))/\w'=w:=by
 have hg:=Wm s.data.toList
 have hle:=NU s.data.toList
 rw[<-Lib.size_eq]at hg hle
 by_cases h:s.size=256
 ·have hi:(((s.size:Nat):Int)==256)=true:=by rw[h];rfl
  have hw:(wrap64 (((Lib.countByte s.data.toList 48:Nat):Int)+((Lib.countByte s.data.toList 49:Nat):Int))==256)=good s.data.toList:=by
   rw[<-hg,decide_eq_true h,Bool.true_and,h]
   show(wrap64 (((s.data.toList.count 48:Nat):Int)+((s.data.toList.count 49:Nat):Int))==256)=decide (s.data.toList.count 48+s.data.toList.count 49=256)
   have e:wrap64 (((s.data.toList.count 48:Nat):Int)+((s.data.toList.count 49:Nat):Int))=((s.data.toList.count 48+s.data.toList.count 49:Nat):Int):=by unfold wrap64;omega
   rw[e]
   exact decide_eq_decide.2 (by omega)
  have HW:=hid hw
  clear hg hle hw
  go_enter Tryz.func158,Tryz.ntmps158
  go_wp2_with (refine(Tryz.strings_Count_one _ _ _).mono ?_;rintro e w' ⟨rfl,rfl⟩)
  go_ret
  exact⟨AX HW.out,rfl⟩
 have HG:=hid hg
 have hi:(((s.size:Nat):Int)==256)=false:=beq_eq_false_iff_ne.2 (by omega)
 clear hg hle
 go_enter Tryz.func158,Tryz.ntmps158
 go_wp2_with fail
 go_ret
 refine⟨AX ?_,rfl⟩
 rw[<-HG.out,decide_eq_false h];rfl
theorem Y5 (s:ByteArray) (w:World):Calls Tryz.prog 175 #[.string s] w fun e w'=>e= .returned (.agg (BZ (bv (has s.data.toList))))/\Below w.heap.size w w':=XA s w (Ik s)
theorem qx {s:ByteArray} (hg:good s.data.toList=true) {i:Nat} (hi:i<s.size):((s[i].toNat:Int)==49)=has s.data.toList i:=by
 rw[MM hg,Kit.CO s i hi]
 exact decide_eq_decide.2 ⟨fun h=>UInt8.toNat_inj.1 (show s[i].toNat=49 by omega),fun h=>by rw[h];rfl⟩
theorem Md (s:ByteArray) (c:UInt8) (w:World):Calls Tryz.prog 141 #[.string s,.int .u8 c.toNat] w fun e w'=>e= .returned (.bool (has s.data.toList c.toNat))/\w'=w:=by
 cases hg:good s.data.toList with
 |false=>
  have HG:=hid hg
  go_enter Tryz.func141,Tryz.ntmps141
  go_wp2_with fail
  refine(Ik s _).mono ?_
  rintro e w' ⟨rfl,rfl⟩
  go_wp2_with fail
  go_ret
  exact⟨AX (PZ HG.out _).symm,rfl⟩
 |true=>
  have hsz:s.size=256:=by rw[Lib.size_eq];exact MN hg
  have hc:c.toNat<s.size:=by rw[hsz];exact UInt8.toNat_lt c
  have HV:=hid (qx hg hc)
  clear hsz
  go_enter Tryz.func141,Tryz.ntmps141
  go_wp2_with fail
  refine(Ik s _).mono ?_
  rintro e w' ⟨rfl,rfl⟩
  go_wp2_with fail
  go_ret
  exact⟨AX HV.out,rfl⟩
theorem VE (c:UInt8):decide (0<=Lib.indexByte [100,119,115,68,87,83] c)=letter c:=by
 unfold letter
 by_cases h1:c=100
 ·subst h1;rfl
 by_cases h2:c=119
 ·subst h2;rfl
 by_cases h3:c=115
 ·subst h3;rfl
 by_cases h4:c=68
 ·subst h4;rfl
 by_cases h5:c=87
 ·subst h5;rfl
 by_cases h6:c=83
 ·subst h6;rfl
 simp[Lib.indexByte,h1,h2,h3,h4,h5,h6,Ne.symm h1,Ne.symm h2,Ne.symm h3,Ne.symm h4,Ne.symm h5,Ne.symm h6]
theorem nW (c:UInt8):((c.toNat:Int)).toNat.toUInt8=c:=by
 rw[Int.toNat_natCast];exact UInt8.ofNat_toNat
theorem Me (c:UInt8) (w:World):Calls Tryz.prog 182 #[.int .u8 c.toNat] w fun e w'=>e= .returned (.bool (letter c))/\w'=w:=by
 have HV:=hid (VE c)
 have HU:=hid (nW c)
 go_enter Tryz.func182,Tryz.ntmps182
 go_wp2_with (refine(Tryz.strings_IndexByte _ _ _).mono ?_;rintro e w' ⟨rfl,rfl⟩;rw[HU.out])
 go_ret
 exact⟨AX HV.out,rfl⟩
theorem cz (s:List UInt8):joined s=(Lib.hasPrefix s [45]&& !Lib.hasPrefix s [45,93]):=by
 unfold Lib.hasPrefix joined
 rcases s with _|⟨c,r⟩
 ·rfl
 by_cases h:c=45
 ·subst h
  rcases r with _|⟨d,q⟩
  ·rfl
  by_cases h2:d=93
  ·subst h2;simp
  have h3: ¬93=d:=fun e=>h2 e.symm
  simp[List.isPrefixOf,h2,h3]
 simp[h,Ne.symm h]
theorem Dm (s:ByteArray) (w:World):Calls Tryz.prog 190 #[.string s] w fun e w'=>e= .returned (.bool (joined s.data.toList))/\w'=w:=by
 have HV:=hid (cz s.data.toList)
 cases hp:Lib.hasPrefix s.data.toList [45]with
 |false=>
  rw[hp]at HV
  go_enter Tryz.func190,Tryz.ntmps190
  go_wp2_with (refine(Tryz.strings_HasPrefix _ _ _).mono ?_;rintro e w' ⟨rfl,rfl⟩)
  go_ret
  exact⟨AX HV.out.symm,rfl⟩
 |true=>
  rw[hp]at HV
  go_enter Tryz.func190,Tryz.ntmps190
  go_wp2_with (refine(Tryz.strings_HasPrefix _ _ _).mono ?_;rintro e w' ⟨rfl,rfl⟩)
  go_ret
  exact⟨AX HV.out.symm,rfl⟩
end FD
end Go.Proofs.YtfgegjinhkgpbaaGreatDoor
