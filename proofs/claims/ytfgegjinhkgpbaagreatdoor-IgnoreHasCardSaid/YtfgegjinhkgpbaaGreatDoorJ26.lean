/-
  Texts joined, in build order, each with its own comment and its own conditions: W13Next, W13RefMath, W13RefParse.
-/
import Derived.Test.YtfgegjinhkgpbaaGreatDoorTake
import Derived.Test.YtfgegjinhkgpbaaGreatDoorJ23
import Derived.Test.YtfgegjinhkgpbaaGreatDoorJ10
import Derived.Deep.RegionHeld3
import Derived.BigQuiet
import Derived.Test.YtfgegjinhkgpbaaGreatDoorJ03
import Derived.Deep.LoopGhost
namespace Go.Proofs.YtfgegjinhkgpbaaGreatDoor
set_option maxHeartbeats 4000000
set_option maxRecDepth 100000
open Go.RowKit
open Lib (hid)
namespace FD
open Ew BU
open Kit (Au AX BO CL Ae BM below_draws on)
def bK (at_:Nat) (o:UInt8×Nat×Bool):Value:=
 if o.2.1=0 then .tuple #[.int .i64 0,.string ⟨#[]⟩,.int .i64 0,.int .i64 3]
 else if o.2.2 then .tuple #[.int .i64 (-1),.string (tx (Bt o.1)),.int .i64 ((at_+o.2.1:Nat):Int),.int .i64 0]
 else .tuple #[.int .i64 o.1.toNat,.string (tx (between o.1.toNat o.1.toNat)),.int .i64 ((at_+o.2.1:Nat):Int),.int .i64 0]
def Fu (w:World) (v:Value) (e:Ending) (w':World):Prop:=e= .returned v/\Below w.heap.size w w'
theorem lJ {fn:Func} {a b c d:Tmp} (h:fn.results= #[.tmp a,.tmp b,.tmp c,.tmp d]) (tmps:Array Value) (P:Program) (w:World):(results fn tmps).run P w= .ok (.tuple #[tmps.getD a undef,tmps.getD b undef,tmps.getD c undef,tmps.getD d undef]) w:=by
 simp[results,h]
theorem tN {s:ByteArray} {at_:Nat} (h:at_<s.size):one (s.data.toList.drop at_)=if s[at_]=92 then(if h2:at_+1<s.size then(s[at_+1],2,letter s[at_+1])else(0,0,false))else(s[at_],1,false):=by
 rw[Kit.Ay s at_ h]
 unfold one
 by_cases Fy:s[at_]=92
 ·simp only[if_pos Fy]
  by_cases h2:at_+1<s.size
  ·rw[Kit.Ay s (at_+1) h2,dif_pos h2]
  rw[Kit.Ci s (at_+1) h2,dif_neg h2]
 simp only[if_neg Fy]
section
variable {s:ByteArray} {at_:Nat} {w:World}
theorem lK (hat: ¬at_<s.size):Calls Tryz.prog 166 #[.string s,.int .i64 at_] w (Fu w (.tuple #[.int .i64 0,.string ⟨#[]⟩,.int .i64 0,.int .i64 3])):=by
 have h1:(s.size:Int)<=(at_:Int):=by omega
 go_enter Tryz.func166,Tryz.ntmps166
 go_wp2_with fail
 refine bodyPost_ret (lJ rfl _ _ _) rfl ?_
 exact⟨rfl,Below.refl _ _⟩
theorem fF (hs:s.size<=900) (hat:at_<s.size) (Fy:s[at_]=92) (hl: ¬at_+1<s.size):Calls Tryz.prog 166 #[.string s,.int .i64 at_] w (Fu w (.tuple #[.int .i64 0,.string ⟨#[]⟩,.int .i64 0,.int .i64 3])):=by
 have h1: ¬(s.size:Int)<=(at_:Int):=by omega
 have h2:(at_:Int)<(s.size:Int):=by omega
 have t92:((s[at_].toNat:Int)==92)=true:=Db Fy
 have hw1:wrap64 ((at_:Int)+1)=((at_+1:Nat):Int):=by unfold wrap64;omega
 have hq:(((at_+1:Nat):Int)==(s.size:Int))=true:=by simpa using (by omega:((at_:Int)+1)=(s.size:Int))
 clear Fy
 go_enter Tryz.func166,Tryz.ntmps166
 go_wp2_with fail
 refine bodyPost_ret (lJ rfl _ _ _) rfl ?_
 exact⟨rfl,Below.refl _ _⟩
theorem aB (hs:s.size<=900) (hat:at_<s.size) (Fy: ¬s[at_]=92):Calls Tryz.prog 166 #[.string s,.int .i64 at_] w (Fu w (.tuple #[.int .i64 s[at_].toNat,.string (tx (between s[at_].toNat s[at_].toNat)),.int .i64 ((at_+1:Nat):Int),.int .i64 0])):=by
 have h1: ¬(s.size:Int)<=(at_:Int):=by omega
 have h2:(at_:Int)<(s.size:Int):=by omega
 have t92:((s[at_].toNat:Int)==92)=false:=DC Fy
 have hw1:wrap64 ((at_:Int)+1)=((at_+1:Nat):Int):=by unfold wrap64;omega
 have hb0:(0:Int)<=(at_:Int):=by omega
 have hwr:IntKind.i64.wrap ((at_:Int)+1)=(at_:Int)+1:=by rw[IntKind.wrap_i64];omega
 have hwb:IntKind.i64.wrap (s[at_].toNat:Int)=(s[at_].toNat:Int):=by have:=UInt8.toNat_lt s[at_];rw[IntKind.wrap_i64];omega
 clear Fy
 go_enter Tryz.func166,Tryz.ntmps166
 go_wp2_with fail
 refine wp_region_held_drew (S:=fun w'=>Below w.heap.size w w') (by kernel_rfl) (below_draws w 1) (fun hHeld=> ?_)
 refine Take.k 0 ⟨some 31,.move (.tmp 0),_,_,_,none⟩ ?_
 refine Take.k 1 ⟨some 32,.move (.tmp 1),_,_,_,none⟩ ?_
 refine Take.k 2 ⟨some 33,.index 9 (.tmp 31) (.tmp 32),_,_,_,none⟩ ?_
 refine Take.k 3 ⟨some 34,.convert 5 3 (.tmp 33),_,_,_,none⟩ ?_
 refine Take.k 4 ⟨some 35,.move (.tmp 0),_,_,_,none⟩ ?_
 refine Take.k 5 ⟨some 36,.move (.tmp 1),_,_,_,none⟩ ?_
 refine Take.k 6 ⟨some 37,.index 9 (.tmp 35) (.tmp 36),_,_,_,none⟩ ?_
 refine Take.k 7 ⟨some 38,.convert 5 3 (.tmp 37),_,_,_,none⟩ ?_
 refine Take.k 8 ⟨some 39,.move (.tmp 0),_,_,_,none⟩ ?_
 refine Take.k 9 ⟨some 40,.move (.tmp 1),_,_,_,none⟩ ?_
 refine Take.k 10 ⟨some 41,.index 9 (.tmp 39) (.tmp 40),_,_,_,none⟩ ?_
 refine Take.k 11 ⟨some 42,.convert 5 3 (.tmp 41),_,_,_,none⟩ ?_
 refine Take.k 13 ⟨some 44,.move (.tmp 1),_,_,_,none⟩ ?_
 refine Take.k 14 ⟨some 45,.binOp .add 3 (.tmp 44) (.const (.int .i64 1)) 3,_,_,_,none⟩ ?_
 refine wpAnyH_ready (rs:= [12]) (by kernel_rfl) (by simp) ?_
 refine AllReadyH.cons (o:=⟨some 43,.call ⟨.value (.func 165), #[.tmp 38,.tmp 42], #[3,3]⟩,_,_,_,none⟩) rfl (fun K hK=> ?_) AllReadyH.nil
 go_simp
 (go_at_call 165;refine(Ac s[at_].toNat s[at_].toNat (UInt8.toNat_lt _) (w.drewN 1)).mono ?_;rintro e w2 ⟨rfl,hb2⟩;have hB:Below w.heap.size w w2:=(below_draws w 1).trans hb2)
 go_wp2_with fail
 refine hK.out _ _ ?_ (fun hHeld=> ?_)
 ·exact hB
 clear hK K
 try simp only[Act.put,Take.a,Take.b,Take.c]
 refine Take.k 15 ⟨some 4,.assign (.tmp 34),_,_,_,none⟩ ?_
 refine Take.k 16 ⟨some 5,.assign (.tmp 43),_,_,_,none⟩ ?_
 refine Take.k 17 ⟨some 6,.assign (.tmp 45),_,_,_,none⟩ ?_
 refine Take.k 18 ⟨some 7,.assign (.const (.int .i64 0)),_,_,_,none⟩ ?_
 refine wpAnyH_done (by kernel_rfl) ?_ _
 go_wp2_with fail
 refine bodyPost_ret (lJ rfl _ _ _) rfl ?_
 exact⟨rfl,hB⟩
theorem YF (hs:s.size<=900) (hat:at_<s.size) (Fy:s[at_]=92) (hl:at_+1<s.size) (hlet:letter s[at_+1]=true):Calls Tryz.prog 166 #[.string s,.int .i64 at_] w (Fu w (.tuple #[.int .i64 (-1),.string (tx (Bt s[at_+1])),.int .i64 ((at_+2:Nat):Int),.int .i64 0])):=by
 have h1: ¬(s.size:Int)<=(at_:Int):=by omega
 have h2:(at_:Int)<(s.size:Int):=by omega
 have t92:((s[at_].toNat:Int)==92)=true:=Db Fy
 have hw1:wrap64 ((at_:Int)+1)=((at_+1:Nat):Int):=by unfold wrap64;omega
 have hw2:wrap64 ((at_:Int)+2)=((at_+2:Nat):Int):=by unfold wrap64;omega
 have h3:((at_+1:Nat):Int)<(s.size:Int):=by omega
 have hq:(((at_+1:Nat):Int)==(s.size:Int))=false:=by simpa using (by omega: ¬((at_:Int)+1)=(s.size:Int))
 have HN:Hid (∀w,Calls Tryz.prog 155 #[.int .u8 s[at_+1].toNat] w fun e w'=>e= .returned (.tuple #[.string (tx (Bt s[at_+1])),.bool true])/\Below w.heap.size w w'):=fun w=>by
  have:=Gf s[at_+1] w
  rw[hlet]at this
  exact this
 clear Fy hlet
 go_enter Tryz.func166,Tryz.ntmps166
 go_wp2_with fail
 refine(HN.out _).mono ?_
 rintro e w1 ⟨rfl,hb1⟩
 have HB1:=hid hb1
 clear hb1
 go_wp2_with fail
 refine bodyPost_ret (lJ rfl _ _ _) rfl ?_
 exact⟨rfl,HB1.out⟩
theorem Vu (hs:s.size<=900) (hat:at_<s.size) (Fy:s[at_]=92) (hl:at_+1<s.size) (hlet:letter s[at_+1]=false):Calls Tryz.prog 166 #[.string s,.int .i64 at_] w (Fu w (.tuple #[.int .i64 s[at_+1].toNat,.string (tx (between s[at_+1].toNat s[at_+1].toNat)),.int .i64 ((at_+2:Nat):Int),.int .i64 0])):=by
 have h1: ¬(s.size:Int)<=(at_:Int):=by omega
 have h2:(at_:Int)<(s.size:Int):=by omega
 have t92:((s[at_].toNat:Int)==92)=true:=Db Fy
 have hw1:wrap64 ((at_:Int)+1)=((at_+1:Nat):Int):=by unfold wrap64;omega
 have hw2:wrap64 ((at_:Int)+2)=((at_+2:Nat):Int):=by unfold wrap64;omega
 have h3:((at_+1:Nat):Int)<(s.size:Int):=by omega
 have hq:(((at_+1:Nat):Int)==(s.size:Int))=false:=by simpa using (by omega: ¬((at_:Int)+1)=(s.size:Int))
 have hb0:(0:Int)<=(at_:Int):=by omega
 have hwr:IntKind.i64.wrap ((at_:Int)+1)=(at_:Int)+1:=by rw[IntKind.wrap_i64];omega
 have hb1':(0:Int)<=(at_:Int)+1:=by omega
 have hb2':(at_:Int)+1<(s.size:Int):=by omega
 have hwr2:IntKind.i64.wrap ((at_:Int)+2)=(at_:Int)+2:=by rw[IntKind.wrap_i64];omega
 have hwb:IntKind.i64.wrap (s[at_+1].toNat:Int)=(s[at_+1].toNat:Int):=by have:=UInt8.toNat_lt s[at_+1];rw[IntKind.wrap_i64];omega
 have HN:Hid (∀w,Calls Tryz.prog 155 #[.int .u8 s[at_+1].toNat] w fun e w'=>e= .returned (.tuple #[.string (tx (Bt s[at_+1])),.bool false])/\Below w.heap.size w w'):=fun w=>by
  have:=Gf s[at_+1] w
  rw[hlet]at this
  exact this
 clear Fy hlet
 go_enter Tryz.func166,Tryz.ntmps166
 go_wp2_with fail
 refine(HN.out _).mono ?_
 rintro e w1 ⟨rfl,hb1⟩
 have HB1:=hid hb1
 clear hb1
 go_wp2_with fail
 refine wp_region_held_drew (S:=fun w'=>Below w1.heap.size w1 w') (by kernel_rfl) (below_draws w1 1) (fun hHeld=> ?_)
 refine Take.k 0 ⟨some 58,.move (.tmp 0),_,_,_,none⟩ ?_
 refine Take.k 1 ⟨some 59,.move (.tmp 1),_,_,_,none⟩ ?_
 refine Take.k 2 ⟨some 60,.binOp .add 3 (.tmp 59) (.const (.int .i64 1)) 3,_,_,_,none⟩ ?_
 refine Take.k 3 ⟨some 61,.index 9 (.tmp 58) (.tmp 60),_,_,_,none⟩ ?_
 refine Take.k 4 ⟨some 62,.convert 5 3 (.tmp 61),_,_,_,none⟩ ?_
 refine Take.k 5 ⟨some 63,.move (.tmp 0),_,_,_,none⟩ ?_
 refine Take.k 6 ⟨some 64,.move (.tmp 1),_,_,_,none⟩ ?_
 refine Take.k 7 ⟨some 65,.binOp .add 3 (.tmp 64) (.const (.int .i64 1)) 3,_,_,_,none⟩ ?_
 refine Take.k 8 ⟨some 66,.index 9 (.tmp 63) (.tmp 65),_,_,_,none⟩ ?_
 refine Take.k 9 ⟨some 67,.convert 5 3 (.tmp 66),_,_,_,none⟩ ?_
 refine Take.k 10 ⟨some 68,.move (.tmp 0),_,_,_,none⟩ ?_
 refine Take.k 11 ⟨some 69,.move (.tmp 1),_,_,_,none⟩ ?_
 refine Take.k 12 ⟨some 70,.binOp .add 3 (.tmp 69) (.const (.int .i64 1)) 3,_,_,_,none⟩ ?_
 refine Take.k 13 ⟨some 71,.index 9 (.tmp 68) (.tmp 70),_,_,_,none⟩ ?_
 refine Take.k 14 ⟨some 72,.convert 5 3 (.tmp 71),_,_,_,none⟩ ?_
 refine Take.k 16 ⟨some 74,.move (.tmp 1),_,_,_,none⟩ ?_
 refine Take.k 17 ⟨some 75,.binOp .add 3 (.tmp 74) (.const (.int .i64 2)) 3,_,_,_,none⟩ ?_
 refine wpAnyH_ready (rs:= [15]) (by kernel_rfl) (by simp) ?_
 refine AllReadyH.cons (o:=⟨some 73,.call ⟨.value (.func 165), #[.tmp 67,.tmp 72], #[3,3]⟩,_,_,_,none⟩) rfl (fun K hK=> ?_) AllReadyH.nil
 go_simp
 (go_at_call 165;refine(Ac s[at_+1].toNat s[at_+1].toNat (UInt8.toNat_lt _) (w1.drewN 1)).mono ?_;rintro e w2 ⟨rfl,hb2⟩;have hB:Below w1.heap.size w1 w2:=(below_draws w1 1).trans hb2)
 go_wp2_with fail
 refine hK.out _ _ ?_ (fun hHeld=> ?_)
 ·exact hB
 clear hK K
 try simp only[Act.put,Take.a,Take.b,Take.c]
 refine Take.k 18 ⟨some 4,.assign (.tmp 62),_,_,_,none⟩ ?_
 refine Take.k 19 ⟨some 5,.assign (.tmp 73),_,_,_,none⟩ ?_
 refine Take.k 20 ⟨some 6,.assign (.tmp 75),_,_,_,none⟩ ?_
 refine Take.k 21 ⟨some 7,.assign (.const (.int .i64 0)),_,_,_,none⟩ ?_
 refine wpAnyH_done (by kernel_rfl) ?_ _
 go_wp2_with fail
 refine bodyPost_ret (lJ rfl _ _ _) rfl ?_
 exact⟨rfl,on HB1.out hB⟩
theorem lL (hs:s.size<=900):Calls Tryz.prog 166 #[.string s,.int .i64 at_] w (Fu w (bK at_ (one (s.data.toList.drop at_)))):=by
 by_cases hat:at_<s.size
 ·rw[tN hat]
  by_cases Fy:s[at_]=92
  ·rw[if_pos Fy]
   by_cases hl:at_+1<s.size
   ·rw[dif_pos hl]
    cases hlet:letter s[at_+1]with
    |true=>exact YF hs hat Fy hl hlet
    |false=>exact Vu hs hat Fy hl hlet
   rw[dif_neg hl];exact fF hs hat Fy hl
  rw[if_neg Fy];exact aB hs hat Fy
 rw[Kit.Ci s at_ hat];exact lK hat
end
end FD
namespace Ew
open Go
def CK (s:List UInt8):Nat->Nat->Bool->(Nat->Bool)->(Nat->Bool)×Nat×Int
 |0,_,_,_=>(fun _=>false,0,3)
 |fuel+1,a,fst,f=>
  if s.length<=a then(fun _=>false,0,3)
  else if s.getD a 0=93/\fst=false then(f,a+1,0)
  else if(item (s.drop a)).2.1≠0 then(fun _=>false,0,(item (s.drop a)).2.1)
  else CK s fuel (a+(item (s.drop a)).1) false (fun i=>f i||(item (s.drop a)).2.2 i)
theorem fG {s:List UInt8} (h:(item s).2.1=0):0<(item s).1:=by
 revert h
 unfold item
 split
 ·simp
 rename_i hn
 split
 ·split
  ·simp
  simp only;omega
 split
 ·simp only;omega
 split
 ·simp
 split
 ·simp
 split
 ·simp
 simp only;omega
theorem fH (s:List UInt8): ∀(fuel k:Nat) (f:Nat->Bool),(items s fuel k f).2.2≠0->(items s fuel k f).2.1=0
 |0,_,_=>fun _=>rfl
 |fuel+1,k,f=>by
  unfold items
  split
  ·intro _;rfl
  split
  ·intro h;exact absurd rfl h
  split
  ·intro _;rfl
  exact fH s fuel _ _
theorem OJ (s:List UInt8) (o:Nat): ∀(fuel k:Nat) (f:Nat->Bool),CK s fuel (o+k) (decide (k=0)) f=((items (s.drop o) fuel k f).1,(if(items (s.drop o) fuel k f).2.2=0 then o+(items (s.drop o) fuel k f).2.1 else 0),(items (s.drop o) fuel k f).2.2)
 |0,k,f=>rfl
 |fuel+1,k,f=>by
  unfold CK items
  have hlen:(s.drop o).length=s.length-o:=List.length_drop
  have hget:(s.drop o).getD k 0=s.getD (o+k) 0:=by rw[List.getD_eq_getElem?_getD,List.getD_eq_getElem?_getD,List.getElem?_drop]
  have hdrop:(s.drop o).drop k=s.drop (o+k):=by rw[List.drop_drop]
  rw[hget,hdrop,hlen]
  obtain⟨⟨n,er,G⟩,hI⟩: ∃r,item (s.drop (o+k))=r:=⟨_,rfl⟩
  have hpos:= @fG (s.drop (o+k))
  rw[hI]at hpos ⊢
  simp only at hpos ⊢
  by_cases h1:s.length<=o+k
  ·have g1:s.length-o<=k:=by omega
   simp only[if_pos h1,if_pos g1];rfl
  have g1: ¬s.length-o<=k:=by omega
  simp only[if_neg h1,if_neg g1]
  by_cases h2:s.getD (o+k) 0=93/\0<k
  ·have g2:s.getD (o+k) 0=93/\decide (k=0)=false:=⟨h2.1,by simp;omega⟩
   simp only[if_pos h2,if_pos g2];rfl
  have g2: ¬(s.getD (o+k) 0=93/\decide (k=0)=false):=by rintro⟨a,b⟩;exact h2 ⟨a,by simpa [Nat.pos_iff_ne_zero]using b⟩
  simp only[if_neg h2,if_neg g2]
  by_cases h3:er≠0
  ·simp only[if_pos h3,if_neg h3]
  simp only[if_neg h3]
  have hp:0<n:=hpos (by simpa using h3)
  have:=OJ s o fuel (k+n) (fun i=>f i||G i)
  rw[<-Nat.add_assoc,decide_eq_false (by omega: ¬k+n=0)]at this
  exact this
section
variable {S:List UInt8} {a k:Nat} {fst:Bool} {F G:Nat->Bool}
theorem BG {er:Int} (hne: ¬(S.getD a 0=93/\fst=false)) (hi:item (S.drop a)=(0,er,G)) (her:er≠0) (h3:S.length<=a->er=3):CK S (k+1) a fst F=(fun _=>false,0,er):=by
 unfold CK
 by_cases h:S.length<=a
 ·rw[if_pos h,h3 h]
 rw[if_neg h,if_neg hne,hi,if_pos her]
theorem Cn {n:Nat} (hlt:a<S.length) (hne: ¬(S.getD a 0=93/\fst=false)) (hi:item (S.drop a)=(n,0,G)):CK S (k+1) a fst F=CK S k (a+n) false (fun i=>F i||G i):=by
 rw[CK,if_neg (by omega),if_neg hne,hi,if_neg (by simp)]
theorem SB (hlt:a<S.length) (Ec:S.getD a 0=93):CK S (k+1) a false F=(F,a+1,0):=by
 rw[CK,if_neg (by omega),if_pos ⟨Ec,rfl⟩]
end
def fin (neg:Bool) (R:(Nat->Bool)×Nat×Int):(Nat->Bool)×Nat×Int:=
 if R.2.2≠0 then(fun _=>false,0,R.2.2)else if neg=true then(fun i=> !R.1 i,R.2.1,0)else(R.1,R.2.1,0)
theorem Bn {neg:Bool} {er:Int} {F:Nat->Bool} {n:Nat} (h:er≠0):fin neg (F,n,er)=(fun _=>false,0,er):=if_pos h
theorem fin_neg {F:Nat->Bool} {n:Nat}:fin true (F,n,0)=(fun i=> !F i,n,0):=rfl
theorem tQ {F:Nat->Bool} {n:Nat}:fin false (F,n,0)=(F,n,0):=rfl
theorem fI (q:List UInt8):parse (91::94::q)=fin true (CK (91::94::q) (q.length+1) 2 true (fun _=>false)):=by
 have h:=OJ (91::94::q) 2 (q.length+1) 0 (fun _=>false)
 rw[Nat.add_zero,show decide (0=0)=true from rfl,show(91::94::q).drop 2=q from rfl]at h
 rw[h]
 unfold parse
 simp only[if_pos]
 by_cases he:(items q (q.length+1) 0 (fun _=>false)).2.2≠0
 ·rw[if_pos he,Bn he]
 have he2:(items q (q.length+1) 0 (fun _=>false)).2.2=0:=by simpa using he
 rw[if_neg he,if_pos he2,he2];rfl
theorem fJ (r:List UInt8) (Jh:r.getD 0 0≠94):parse (91::r)=fin false (CK (91::r) (r.length+1) 1 true (fun _=>false)):=by
 have h:=OJ (91::r) 1 (r.length+1) 0 (fun _=>false)
 rw[Nat.add_zero,show decide (0=0)=true from rfl,show(91::r).drop 1=r from rfl]at h
 rw[h]
 unfold parse
 match r,Jh with
 | [],_=>rfl
 |d::q,Jh=>
  have hd: ¬d=94:=Jh
  simp only[if_pos]
  rw[if_neg hd]
  by_cases he:(items (d::q) ((d::q).length+1) 0 (fun _=>false)).2.2≠0
  ·rw[if_pos he,Bn he]
  have he2:(items (d::q) ((d::q).length+1) 0 (fun _=>false)).2.2=0:=by simpa using he
  rw[if_neg he,if_pos he2,he2];rfl
/-! an item,way by way -/
section
variable {D:List UInt8} {c c2:UInt8} {m m2:Nat} {l l2:Bool}
theorem Gm (h:one D=(c,0,l)):item D=(0,3,fun _=>false):=by unfold item;rw[h];rfl
theorem IB (h:one D=(c,m,true)) (hm:m≠0) (hj:joined (D.drop m)=true):item D=(0,3,fun _=>false):=by
 unfold item;rw[h];simp only;rw[if_neg hm,if_pos trivial,if_pos hj]
theorem GR (h:one D=(c,m,true)) (hm:m≠0) (hj:joined (D.drop m)=false):item D=(m,0,Bt c):=by
 unfold item;rw[h];simp only;rw[if_neg hm,if_pos trivial,if_neg (by rw[hj];simp)]
theorem GU (h:one D=(c,m,false)) (hm:m≠0) (hj:joined (D.drop m)=false):item D=(m,0,fun i=>decide (i=c.toNat)):=by
 unfold item;rw[h];simp only;rw[if_neg hm,if_neg (by simp),if_pos hj]
theorem IC (h:one D=(c,m,false)) (hm:m≠0) (hj:joined (D.drop m)=true) (h2:one (D.drop (m+1))=(c2,0,l2)):item D=(0,3,fun _=>false):=by
 unfold item;rw[h];simp only;rw[if_neg hm,if_neg (by simp),if_neg (by rw[hj];simp),h2];rfl
theorem Pq (h:one D=(c,m,false)) (hm:m≠0) (hj:joined (D.drop m)=true) (h2:one (D.drop (m+1))=(c2,m2,true)) (hm2:m2≠0):item D=(0,3,fun _=>false):=by
 unfold item;rw[h];simp only;rw[if_neg hm,if_neg (by simp),if_neg (by rw[hj];simp),h2];simp only;rw[if_neg hm2,if_pos trivial]
theorem Ps (h:one D=(c,m,false)) (hm:m≠0) (hj:joined (D.drop m)=true) (h2:one (D.drop (m+1))=(c2,m2,false)) (hm2:m2≠0) (hlt:c2.toNat<c.toNat):item D=(0,4,fun _=>false):=by
 unfold item;rw[h];simp only;rw[if_neg hm,if_neg (by simp),if_neg (by rw[hj];simp),h2];simp only;rw[if_neg hm2,if_neg (by simp),if_pos hlt]
theorem Pt (h:one D=(c,m,false)) (hm:m≠0) (hj:joined (D.drop m)=true) (h2:one (D.drop (m+1))=(c2,m2,false)) (hm2:m2≠0) (hlt: ¬c2.toNat<c.toNat):item D=(m+1+m2,0,between c.toNat c2.toNat):=by
 unfold item;rw[h];simp only;rw[if_neg hm,if_neg (by simp),if_neg (by rw[hj];simp),h2];simp only;rw[if_neg hm2,if_neg (by simp),if_neg hlt]
end
end Ew
namespace FD
open Ew BU
open Kit (Au AX BO CL Ae BM below_draws on Ap Az)
def NK (w:World) (r:(Nat->Bool)×Nat×Int) (e:Ending) (w':World):Prop:=e= .returned (.tuple #[.string (tx r.1),.int .i64 r.2.1,.int .i64 r.2.2])/\Below w.heap.size w w'
theorem Ka (w:World):Calls Tryz.prog 165 #[.int .i64 1,.int .i64 0] w fun e w'=>e= .returned (.string (tx fun _=>false))/\Below w.heap.size w w':=by
 have h:=Ac 1 0 (by decide) w
 rw[Em (f:=between 1 0) (g:=fun _=>false) (fun i _=>by unfold between;by_cases h:1<=i<;>simp[h];omega)]at h
 exact h
theorem Bz {d X:ByteArray} {F G:Nat->Bool} (hd:d=tx F) (hx:X=tx G): ∃Y,Y=tx (fun i=>F i||G i)/\ ∀w,Calls Tryz.prog 135 #[.string d,.string X] w fun e w'=>e= .returned (.string Y)/\Below w.heap.size w w':=
 ⟨_,rfl,fun w=>by subst hd hx;exact Aw F G w⟩
theorem fK {d:ByteArray} {F:Nat->Bool} (hd:d=tx F): ∃Y,Y=tx (fun i=> !F i)/\ ∀w,Calls Tryz.prog 167 #[.string d] w fun e w'=>e= .returned (.string Y)/\Below w.heap.size w w':=
 ⟨_,rfl,fun w=>by subst hd;exact KS F w⟩
theorem JX (c d:UInt8): ∃Y,Y=tx (between c.toNat d.toNat)/\ ∀w,Calls Tryz.prog 165 #[.int .i64 c.toNat,.int .i64 d.toNat] w fun e w'=>e= .returned (.string Y)/\Below w.heap.size w w':=
 ⟨_,rfl,fun w=>Ac _ _ (UInt8.toNat_lt d) w⟩
structure tX (s:ByteArray) (a:Nat) (c:UInt8) (m:Nat) (l:Bool):Prop where
 one:one (s.data.toList.drop a)=(c,m,l)
 le:m≠0->a+m<=s.size/\a<s.size
 none:m=0-> ∀w,Calls Tryz.prog 166 #[.string s,.int .i64 a] w (Fu w (.tuple #[.int .i64 0,.string ⟨#[]⟩,.int .i64 0,.int .i64 3]))
 some:m≠0-> ∃(av:Int) (X:ByteArray) (G:Nat->Bool),X=tx G/\(l=true->av= -1/\G=Bt c)/\(l=false->av=(c.toNat:Int)/\G=fun i=>decide (i=c.toNat))/\ ∀w,Calls Tryz.prog 166 #[.string s,.int .i64 a] w (Fu w (.tuple #[.int .i64 av,.string X,.int .i64 ((a+m:Nat):Int),.int .i64 0]))
theorem E9 {s:ByteArray} (hs:s.size<=900) (a:Nat): ∃c m l,tX s a c m l:=by
 obtain⟨⟨c,m,l⟩,hone⟩: ∃r,one (s.data.toList.drop a)=r:=⟨_,rfl⟩
 have hn:=fun w=>lL (w:=w) (at_:=a) hs
 rw[hone]at hn
 have hle:=one_le (s.data.toList.drop a)
 rw[hone,List.length_drop,<-Lib.size_eq]at hle
 simp only at hle
 refine⟨c,m,l,hone,fun h=>by omega,fun h w=> ?_,fun h=> ?_⟩
 ·have:=hn w
  unfold bK at this
  rw[if_pos h]at this
  exact this
 cases l with
 |true=>
  refine⟨-1,_,Bt c,rfl,fun _=>⟨rfl,rfl⟩,fun q=>(by simp at q),fun w=> ?_⟩
  have:=hn w
  unfold bK at this
  rw[if_neg h]at this
  exact this
 |false=>
  refine⟨c.toNat,_,fun i=>decide (i=c.toNat),rfl,fun q=>(by simp at q),fun _=>⟨rfl,rfl⟩,fun w=> ?_⟩
  have:=hn w
  unfold bK at this
  rw[if_neg h]at this
  rw[Em (f:=fun i=>decide (i=c.toNat)) (g:=between c.toNat c.toNat) (fun i _=>(Z_ _ _).symm)]
  exact this
theorem Kb {s:ByteArray} {b:Nat} (h:b<s.size) (h45: ¬s[b]=45):joined (s.data.toList.drop b)=false:=by
 rw[Kit.Ay s b h];unfold joined;simp[h45]
theorem JY {s:ByteArray} {b:Nat} (h: ¬b<s.size):joined (s.data.toList.drop b)=false:=by rw[Kit.Ci s b h];rfl
theorem Kc {s:ByteArray} {b:Nat} (h:b+1<s.size) (Ec:s[b+1]=93):joined (s.data.toList.drop b)=false:=by
 rw[Kit.Ay s b (by omega),Kit.Ay s (b+1) h];unfold joined;simp[Ec]
theorem IE {s:ByteArray} {b:Nat} (h:b<s.size) (h45:s[b]=45) (h2: ¬b+1<s.size):joined (s.data.toList.drop b)=true:=by
 rw[Kit.Ay s b h,Kit.Ci s (b+1) h2];unfold joined;simp[h45]
theorem JZ {s:ByteArray} {b:Nat} (h:b+1<s.size) (h45:s[b]=45) (Ec: ¬s[b+1]=93):joined (s.data.toList.drop b)=true:=by
 rw[Kit.Ay s b (by omega),Kit.Ay s (b+1) h];unfold joined;simp[h45,Ec]
set_option maxHeartbeats 16000000 in
theorem Vv {s:ByteArray} (hs1:s.size<=900) (h0:0<s.size) (FX:s[0]=91) (h1:1<s.size) (Jh:s[1]=94) (w:World):Calls Tryz.prog 154 #[.string s] w (NK w (fin true (CK s.data.toList (s.size-2+1) 2 true (fun _=>false)))):=by
 obtain⟨R,hR⟩: ∃R,CK s.data.toList (s.size-2+1) 2 true (fun _=>false)=R:=⟨_,rfl⟩
 rw[hR]
 have HRR:=hid hR
 have hs:=hid hs1
 have H1:=hid h1
 have he:=Ap h0
 have i0:(0:Int)<(s.size:Int):=by omega
 have i1:(1:Int)<(s.size:Int):=by omega
 have t91:((s[0].toNat:Int)==91)=true:=Db FX
 have n91:((s[0].toNat:Int) !=91)=false:=by show(!((s[0].toNat:Int)==91))=false;rw[t91];rfl
 have t94:((s[1].toNat:Int)==94)=true:=Db Jh
 obtain⟨Z,hZ⟩: ∃Z,tx (fun _=>false)=Z:=⟨_,rfl⟩
 have HZ:=hid hZ
 have tY:=Ka
 rw[hZ]at tY
 have Nr:=hid tY
 clear tY hZ hs1 hR FX Jh
 go_enter Tryz.func154,Tryz.ntmps154
 go_wp2_with fail
 refine(Nr.out _).mono ?_
 rintro e w1 ⟨rfl,l1⟩
 have HB1:=hid l1
 clear l1
 go_wp2_with fail
 rename_i hh K hK
 rw[hh]
 clear hh t94 t91 n91 he
 go_loopg [6,8,9] (s.size-2) (fun gk s6 s8 s9 wr=> ∃(a:Nat) (F:Nat->Bool) (d:ByteArray) (fst:Bool),s6= .int .i64 a/\s8= .string d/\s9= .bool fst/\Hid (a<=s.size/\s.size<=a+gk)/\Hid (d=tx F)/\Hid (CK s.data.toList (gk+1) a fst F=R)/\Hid (Below w.heap.size w wr))
 case atStart=>exact⟨2,fun _=>false,Z,true,rfl,rfl,rfl,hid ⟨by have:=H1.out;omega,by have:=H1.out;omega⟩,HZ.out.symm,HRR,HB1⟩
 case round=>
  obtain⟨a,F,d,fst,rfl,rfl,rfl,ha,hd,hit,HB⟩:=hrel
  cases fst with
  |true=>
   have EN:=hid (show¬(s.data.toList.getD a 0=93/\true=false)from fun q=>by simp at q)
   obtain⟨c,m,l,hn⟩:=E9 hs.out a
   by_cases hm:m=0
   ·have HN:=hid (hn.none hm)
    have HX:Hid (R=(fun _=>false,0,3)):=by
     unfold Hid
     rw[<-hit.out]
     exact BG EN.out (Gm (by rw[hn.one,hm])) (by decide) (fun _=>rfl)
    clear hn hm hit
    go_wp2_with fail
    refine(HN.out _).mono ?_
    rintro e w2 ⟨rfl,l2⟩
    have H2:=hid (on HB.out l2)
    clear l2
    go_wp2_with fail
    go_ret3
    refine⟨?_,H2.out⟩
    rw[HX.out,Bn (by decide),<-HZ.out];rfl
   obtain⟨av,X,G,hX,hl1,hl2,hN⟩:=hn.some hm
   have hle:=hn.le hm
   obtain⟨b,hb2⟩: ∃b,a+m=b:=⟨_,rfl⟩
   have hdrop:(s.data.toList.drop a).drop m=s.data.toList.drop b:=by rw[List.drop_drop,hb2]
   have A_:(s.data.toList.drop a).drop (m+1)=s.data.toList.drop (b+1):=by rw[List.drop_drop,<-hb2,Nat.add_assoc]
   rw[hb2]at hN hle
   have HN:=hid hN
   have hsz:=hs.out
   have hw:wrap64 ((b:Int)+1)=((b+1:Nat):Int):=by unfold wrap64;omega
   clear hN
   by_cases hbs:b<s.size
   ·have tb:(b:Int)<(s.size:Int):=by omega
    by_cases h45:s[b]=45
    ·have t45:((s[b].toNat:Int)==45)=true:=Db h45
     by_cases hb1:b+1<s.size
     ·have zC:((b+1:Nat):Int)<(s.size:Int):=by omega
      have tZ:(((b+1:Nat):Int)==(s.size:Int))=false:=by simpa using (by omega: ¬((b:Int)+1)=(s.size:Int))
      by_cases Ec:s[b+1]=93
      ·have t93:((s[b+1].toNat:Int)==93)=true:=Db Ec
       have n93:((s[b+1].toNat:Int) !=93)=false:=by show(!((s[b+1].toNat:Int)==93))=false;rw[t93];rfl
       have hj:=Kc hb1 Ec
       clear h45 Ec
       obtain⟨Y,hY,hU⟩:=Bz hd.out hX
       have HU:=hid hU
       have Kl:Hid (Y=tx (fun i=>F i||G i)):=hY
       have hG:item (s.data.toList.drop a)=(m,0,G):=by
        cases hlet:l with
        |true=>rw[hlet]at hn;rw[GR hn.one hm (by rw[hdrop];exact hj),(hl1 hlet).2]
        |false=>rw[hlet]at hn;rw[GU hn.one hm (by rw[hdrop];exact hj),(hl2 hlet).2]
       have HY:Hid (CK s.data.toList gk b false (fun i=>F i||G i)=R):=by
        unfold Hid
        rw[<-hit.out,Cn (by rw[<-Lib.size_eq];exact hle.2) EN.out hG,hb2]
       have HM:=hid (show a<b/\b<=s.size from⟨by omega,hle.1⟩)
       have HA:=hid (show a<=s.size/\s.size<=a+gk from⟨ha.out.1,ha.out.2⟩)
       clear hU hY hG hl1 hl2 hn hX hdrop A_ hj hit hm hb2 hle ha hd
       go_wp2_with fail
       refine(HN.out _).mono ?_
       rintro e w2 ⟨rfl,l2⟩
       have H2:=hid (on HB.out l2)
       clear l2
       go_wp2_with fail
       refine(HU.out _).mono ?_
       rintro e w3 ⟨rfl,l2⟩
       have H3:=hid (on H2.out l2)
       clear l2
       go_wp2_with fail
       cases gk with
       |zero=>exact absurd HM.out.1 (by have:=HA.out;have:=HM.out;omega)
       |succ g=>
        go_roundg g
        case measure=>omega
        case rel=>exact⟨b,_,_,false,rfl,rfl,rfl,hid ⟨HM.out.2,by have:=HA.out;have:=HM.out;omega⟩,Kl,HY,H3⟩
      have t93:((s[b+1].toNat:Int)==93)=false:=DC Ec
      have n93:((s[b+1].toNat:Int) !=93)=true:=by show(!((s[b+1].toNat:Int)==93))=true;rw[t93];rfl
      have hj:=JZ hb1 h45 Ec
      cases hlet:l with
      |true=>
       have Lu:=(hl1 hlet).1
       subst Lu
       have HX:Hid (R=(fun _=>false,0,3)):=by
        unfold Hid
        rw[<-hit.out]
        exact BG EN.out (IB (by rw[hn.one,hlet]) hm (by rw[hdrop];exact hj)) (by decide) (fun _=>rfl)
       clear h45 Ec hn hm hit hl1 hl2 hlet hdrop A_ hj hX hb2 hle
       go_wp2_with fail
       refine(HN.out _).mono ?_
       rintro e w2 ⟨rfl,l2⟩
       have H2:=hid (on HB.out l2)
       clear l2
       go_wp2_with fail
       go_ret3
       refine⟨?_,H2.out⟩
       rw[HX.out,Bn (by decide),<-HZ.out];rfl
      |false=>
       obtain⟨Lu,-⟩:=hl2 hlet
       subst Lu
       have tc: ¬((c.toNat:Nat):Int)<0:=by omega
       rw[hlet]at hn
       obtain⟨c2,m2,l2,hn2⟩:=E9 hs.out (b+1)
       by_cases hm2:m2=0
       ·have Gl:=hid (hn2.none hm2)
        have HX:Hid (R=(fun _=>false,0,3)):=by
         unfold Hid
         rw[<-hit.out]
         exact BG EN.out (IC hn.one hm (by rw[hdrop];exact hj) (by rw[A_,hn2.one,hm2])) (by decide) (fun _=>rfl)
        clear h45 Ec hn hm hit hl1 hl2 hlet hdrop A_ hj hX hb2 hle hn2 hm2
        go_wp2_with fail
        refine(HN.out _).mono ?_
        rintro e w2 ⟨rfl,l2⟩
        have H2:=hid (on HB.out l2)
        clear l2
        go_wp2_with fail
        refine(Gl.out _).mono ?_
        rintro e w3 ⟨rfl,l2⟩
        have H3:=hid (on H2.out l2)
        clear l2
        go_wp2_with fail
        go_ret3
        refine⟨?_,H3.out⟩
        rw[HX.out,Bn (by decide),<-HZ.out];rfl
       obtain⟨zD,X2,G2,-,hl3,hl4,J2⟩:=hn2.some hm2
       have hle2:=hn2.le hm2
       obtain⟨d,hd2⟩: ∃d,b+1+m2=d:=⟨_,rfl⟩
       rw[hd2]at J2 hle2
       have Gl:=hid J2
       clear J2
       cases C9:l2 with
       |true=>
        have Lv:=(hl3 C9).1
        subst Lv
        have HX:Hid (R=(fun _=>false,0,3)):=by
         unfold Hid
         rw[<-hit.out]
         exact BG EN.out (Pq hn.one hm (by rw[hdrop];exact hj) (by rw[A_,hn2.one,C9]) hm2) (by decide) (fun _=>rfl)
        clear h45 Ec hn hm hit hl1 hl2 hlet hdrop A_ hj hX hb2 hle hn2 hm2 hl3 hl4 C9 hle2 hd2
        go_wp2_with fail
        refine(HN.out _).mono ?_
        rintro e w2 ⟨rfl,l2⟩
        have H2:=hid (on HB.out l2)
        clear l2
        go_wp2_with fail
        refine(Gl.out _).mono ?_
        rintro e w3 ⟨rfl,l2⟩
        have H3:=hid (on H2.out l2)
        clear l2
        go_wp2_with fail
        go_ret3
        refine⟨?_,H3.out⟩
        rw[HX.out,Bn (by decide),<-HZ.out];rfl
       |false=>
        have Lv:=(hl4 C9).1
        subst Lv
        have zF: ¬((c2.toNat:Nat):Int)<0:=by omega
        by_cases hlt:c2.toNat<c.toNat
        ·have tu:((c2.toNat:Nat):Int)<((c.toNat:Nat):Int):=by omega
         have HX:Hid (R=(fun _=>false,0,4)):=by
          unfold Hid
          rw[<-hit.out]
          exact BG EN.out (Ps hn.one hm (by rw[hdrop];exact hj) (by rw[A_,hn2.one,C9]) hm2 hlt) (by decide) (fun q=>by rw[<-Lib.size_eq]at q;omega)
         clear h45 Ec hn hm hit hl1 hl2 hlet hdrop A_ hj hX hb2 hle hn2 hm2 hl3 hl4 C9 hle2 hd2 hlt
         go_wp2_with fail
         refine(HN.out _).mono ?_
         rintro e w2 ⟨rfl,l2⟩
         have H2:=hid (on HB.out l2)
         clear l2
         go_wp2_with fail
         refine(Gl.out _).mono ?_
         rintro e w3 ⟨rfl,l2⟩
         have H3:=hid (on H2.out l2)
         clear l2
         go_wp2_with fail
         go_ret3
         refine⟨?_,H3.out⟩
         rw[HX.out,Bn (by decide),<-HZ.out];rfl
        have tu: ¬((c2.toNat:Nat):Int)<((c.toNat:Nat):Int):=by omega
        obtain⟨X3,Yd,hS⟩:=JX c c2
        obtain⟨Y,hY,hU⟩:=Bz hd.out Yd
        have jl:=hid hS
        have HU:=hid hU
        have Kl:Hid (Y=tx (fun i=>F i||between c.toNat c2.toNat i)):=hY
        have HY:Hid (CK s.data.toList gk d false (fun i=>F i||between c.toNat c2.toNat i)=R):=by
         unfold Hid
         rw[<-hit.out,Cn (by rw[<-Lib.size_eq];exact hle.2) EN.out (Pt hn.one hm (by rw[hdrop];exact hj) (by rw[A_,hn2.one,C9]) hm2 hlt),<-hd2,<-hb2]
         congr 1
         omega
        have HM:=hid (show a<d/\d<=s.size from⟨by omega,hle2.1⟩)
        have HA:=hid (show a<=s.size/\s.size<=a+gk from⟨ha.out.1,ha.out.2⟩)
        clear h45 Ec hn hm hit hl1 hl2 hlet hdrop A_ hj hX hb2 hle hn2 hm2 hl3 hl4 C9 hle2 hd2 hlt hS hU hY Yd ha hd
        go_wp2_with fail
        refine(HN.out _).mono ?_
        rintro e w2 ⟨rfl,l2⟩
        have H2:=hid (on HB.out l2)
        clear l2
        go_wp2_with fail
        refine(Gl.out _).mono ?_
        rintro e w3 ⟨rfl,l2⟩
        have H3:=hid (on H2.out l2)
        clear l2
        go_wp2_with fail
        refine(jl.out _).mono ?_
        rintro e w4 ⟨rfl,l2⟩
        have H4:=hid (on H3.out l2)
        clear l2
        go_wp2_with fail
        refine(HU.out _).mono ?_
        rintro e w5 ⟨rfl,l2⟩
        have H5:=hid (on H4.out l2)
        clear l2
        go_wp2_with fail
        cases gk with
        |zero=>exact absurd HM.out.1 (by have:=HA.out;have:=HM.out;omega)
        |succ g=>
         go_roundg g
         case measure=>omega
         case rel=>exact⟨d,_,_,false,rfl,rfl,rfl,hid ⟨HM.out.2,by have:=HA.out;have:=HM.out;omega⟩,Kl,HY,H5⟩
     have tZ:(((b+1:Nat):Int)==(s.size:Int))=true:=by simpa using (by omega:((b:Int)+1)=(s.size:Int))
     have hj:=IE hbs h45 hb1
     cases hlet:l with
     |true=>
      have Lu:=(hl1 hlet).1
      subst Lu
      have HX:Hid (R=(fun _=>false,0,3)):=by
       unfold Hid
       rw[<-hit.out]
       exact BG EN.out (IB (by rw[hn.one,hlet]) hm (by rw[hdrop];exact hj)) (by decide) (fun _=>rfl)
      clear h45 hn hm hit hl1 hl2 hlet hdrop A_ hj hX hb2 hle
      go_wp2_with fail
      refine(HN.out _).mono ?_
      rintro e w2 ⟨rfl,l2⟩
      have H2:=hid (on HB.out l2)
      clear l2
      go_wp2_with fail
      go_ret3
      refine⟨?_,H2.out⟩
      rw[HX.out,Bn (by decide),<-HZ.out];rfl
     |false=>
      obtain⟨Lu,-⟩:=hl2 hlet
      subst Lu
      have tc: ¬((c.toNat:Nat):Int)<0:=by omega
      rw[hlet]at hn
      obtain⟨c2,m2,l2,hn2⟩:=E9 hs.out (b+1)
      have hm2:m2=0:=by
       by_cases q:m2=0
       ·exact q
       have:=(hn2.le q).2;omega
      have Gl:Hid (∀w,Calls Tryz.prog 166 #[.string s,.int .i64 (s.size:Int)] w (Fu w (.tuple #[.int .i64 0,.string ⟨#[]⟩,.int .i64 0,.int .i64 3]))):=by
       have:=hn2.none hm2
       rw[show b+1=s.size by omega]at this
       exact this
      have HX:Hid (R=(fun _=>false,0,3)):=by
       unfold Hid
       rw[<-hit.out]
       exact BG EN.out (IC hn.one hm (by rw[hdrop];exact hj) (by rw[A_,hn2.one,hm2])) (by decide) (fun _=>rfl)
      clear h45 hn hm hit hl1 hl2 hlet hdrop A_ hj hX hb2 hle hn2 hm2
      go_wp2_with fail
      refine(HN.out _).mono ?_
      rintro e w2 ⟨rfl,l2⟩
      have H2:=hid (on HB.out l2)
      clear l2
      go_wp2_with fail
      refine(Gl.out _).mono ?_
      rintro e w3 ⟨rfl,l2⟩
      have H3:=hid (on H2.out l2)
      clear l2
      go_wp2_with fail
      go_ret3
      refine⟨?_,H3.out⟩
      rw[HX.out,Bn (by decide),<-HZ.out];rfl
    have t45:((s[b].toNat:Int)==45)=false:=DC h45
    have hj:=Kb hbs h45
    clear h45
    obtain⟨Y,hY,hU⟩:=Bz hd.out hX
    have HU:=hid hU
    have Kl:Hid (Y=tx (fun i=>F i||G i)):=hY
    have hG:item (s.data.toList.drop a)=(m,0,G):=by
     cases hlet:l with
     |true=>rw[hlet]at hn;rw[GR hn.one hm (by rw[hdrop];exact hj),(hl1 hlet).2]
     |false=>rw[hlet]at hn;rw[GU hn.one hm (by rw[hdrop];exact hj),(hl2 hlet).2]
    have HY:Hid (CK s.data.toList gk b false (fun i=>F i||G i)=R):=by
     unfold Hid
     rw[<-hit.out,Cn (by rw[<-Lib.size_eq];exact hle.2) EN.out hG,hb2]
    have HM:=hid (show a<b/\b<=s.size from⟨by omega,hle.1⟩)
    have HA:=hid (show a<=s.size/\s.size<=a+gk from⟨ha.out.1,ha.out.2⟩)
    clear hU hY hG hl1 hl2 hn hX hdrop A_ hj hit hm hb2 hle ha hd
    go_wp2_with fail
    refine(HN.out _).mono ?_
    rintro e w2 ⟨rfl,l2⟩
    have H2:=hid (on HB.out l2)
    clear l2
    go_wp2_with fail
    refine(HU.out _).mono ?_
    rintro e w3 ⟨rfl,l2⟩
    have H3:=hid (on H2.out l2)
    clear l2
    go_wp2_with fail
    cases gk with
    |zero=>exact absurd HM.out.1 (by have:=HA.out;have:=HM.out;omega)
    |succ g=>
     go_roundg g
     case measure=>omega
     case rel=>exact⟨b,_,_,false,rfl,rfl,rfl,hid ⟨HM.out.2,by have:=HA.out;have:=HM.out;omega⟩,Kl,HY,H3⟩
   have tb: ¬(b:Int)<(s.size:Int):=by omega
   have hj:=JY hbs
   obtain⟨Y,hY,hU⟩:=Bz hd.out hX
   have HU:=hid hU
   have Kl:Hid (Y=tx (fun i=>F i||G i)):=hY
   have hG:item (s.data.toList.drop a)=(m,0,G):=by
    cases hlet:l with
    |true=>rw[hlet]at hn;rw[GR hn.one hm (by rw[hdrop];exact hj),(hl1 hlet).2]
    |false=>rw[hlet]at hn;rw[GU hn.one hm (by rw[hdrop];exact hj),(hl2 hlet).2]
   have HY:Hid (CK s.data.toList gk b false (fun i=>F i||G i)=R):=by
    unfold Hid
    rw[<-hit.out,Cn (by rw[<-Lib.size_eq];exact hle.2) EN.out hG,hb2]
   have HM:=hid (show a<b/\b<=s.size from⟨by omega,hle.1⟩)
   have HA:=hid (show a<=s.size/\s.size<=a+gk from⟨ha.out.1,ha.out.2⟩)
   clear hU hY hG hl1 hl2 hn hX hdrop A_ hj hit hm hb2 hle ha hd
   go_wp2_with fail
   refine(HN.out _).mono ?_
   rintro e w2 ⟨rfl,l2⟩
   have H2:=hid (on HB.out l2)
   clear l2
   go_wp2_with fail
   refine(HU.out _).mono ?_
   rintro e w3 ⟨rfl,l2⟩
   have H3:=hid (on H2.out l2)
   clear l2
   go_wp2_with fail
   cases gk with
   |zero=>exact absurd HM.out.1 (by have:=HA.out;have:=HM.out;omega)
   |succ g=>
    go_roundg g
    case measure=>omega
    case rel=>exact⟨b,_,_,false,rfl,rfl,rfl,hid ⟨HM.out.2,by have:=HA.out;have:=HM.out;omega⟩,Kl,HY,H3⟩
  |false=>
   by_cases hlt:a<s.size
   ·have ti: ¬(s.size:Int)<=(a:Int):=by omega
    have tl:(a:Int)<(s.size:Int):=by omega
    have hga:s.data.toList.getD a 0=s[a]:=Kit.CO s a hlt
    by_cases Ec:s[a]=93
    ·have t93:((s[a].toNat:Int)==93)=true:=Db Ec
     have n93:((s[a].toNat:Int) !=93)=false:=by show(!((s[a].toNat:Int)==93))=false;rw[t93];rfl
     have HX:Hid (R=(F,a+1,0)):=by
      unfold Hid
      rw[<-hit.out]
      exact SB (by rw[<-Lib.size_eq];exact hlt) (by rw[hga];exact Ec)
     have hsz:=hs.out
     have hw:wrap64 ((a:Int)+1)=((a+1:Nat):Int):=by unfold wrap64;omega
     obtain⟨Y,hY,hN⟩:=fK hd.out
     have HN:=hid hN
     have Kl:=hid hY
     clear hN hY hit Ec hga
     go_wp2_with fail
     refine(HN.out _).mono ?_
     rintro e w2 ⟨rfl,l2⟩
     have H2:=hid (on HB.out l2)
     clear l2
     go_wp2_with fail
     go_ret3
     refine⟨?_,H2.out⟩
     rw[HX.out,fin_neg,Kl.out];rfl
    have t93:((s[a].toNat:Int)==93)=false:=DC Ec
    have n93:((s[a].toNat:Int) !=93)=true:=by show(!((s[a].toNat:Int)==93))=true;rw[t93];rfl
    have EN:=hid (show¬(s.data.toList.getD a 0=93/\false=false)from fun q=>Ec (by rw[<-hga];exact q.1))
    clear Ec hga
    obtain⟨c,m,l,hn⟩:=E9 hs.out a
    by_cases hm:m=0
    ·have HN:=hid (hn.none hm)
     have HX:Hid (R=(fun _=>false,0,3)):=by
      unfold Hid
      rw[<-hit.out]
      exact BG EN.out (Gm (by rw[hn.one,hm])) (by decide) (fun _=>rfl)
     clear hn hm hit
     go_wp2_with fail
     refine(HN.out _).mono ?_
     rintro e w2 ⟨rfl,l2⟩
     have H2:=hid (on HB.out l2)
     clear l2
     go_wp2_with fail
     go_ret3
     refine⟨?_,H2.out⟩
     rw[HX.out,Bn (by decide),<-HZ.out];rfl
    obtain⟨av,X,G,hX,hl1,hl2,hN⟩:=hn.some hm
    have hle:=hn.le hm
    obtain⟨b,hb2⟩: ∃b,a+m=b:=⟨_,rfl⟩
    have hdrop:(s.data.toList.drop a).drop m=s.data.toList.drop b:=by rw[List.drop_drop,hb2]
    have A_:(s.data.toList.drop a).drop (m+1)=s.data.toList.drop (b+1):=by rw[List.drop_drop,<-hb2,Nat.add_assoc]
    rw[hb2]at hN hle
    have HN:=hid hN
    have hsz:=hs.out
    have hw:wrap64 ((b:Int)+1)=((b+1:Nat):Int):=by unfold wrap64;omega
    clear hN
    by_cases hbs:b<s.size
    ·have tb:(b:Int)<(s.size:Int):=by omega
     by_cases h45:s[b]=45
     ·have t45:((s[b].toNat:Int)==45)=true:=Db h45
      by_cases hb1:b+1<s.size
      ·have zC:((b+1:Nat):Int)<(s.size:Int):=by omega
       have tZ:(((b+1:Nat):Int)==(s.size:Int))=false:=by simpa using (by omega: ¬((b:Int)+1)=(s.size:Int))
       by_cases Ec:s[b+1]=93
       ·have t93:((s[b+1].toNat:Int)==93)=true:=Db Ec
        have n93:((s[b+1].toNat:Int) !=93)=false:=by show(!((s[b+1].toNat:Int)==93))=false;rw[t93];rfl
        have hj:=Kc hb1 Ec
        clear h45 Ec
        obtain⟨Y,hY,hU⟩:=Bz hd.out hX
        have HU:=hid hU
        have Kl:Hid (Y=tx (fun i=>F i||G i)):=hY
        have hG:item (s.data.toList.drop a)=(m,0,G):=by
         cases hlet:l with
         |true=>rw[hlet]at hn;rw[GR hn.one hm (by rw[hdrop];exact hj),(hl1 hlet).2]
         |false=>rw[hlet]at hn;rw[GU hn.one hm (by rw[hdrop];exact hj),(hl2 hlet).2]
        have HY:Hid (CK s.data.toList gk b false (fun i=>F i||G i)=R):=by
         unfold Hid
         rw[<-hit.out,Cn (by rw[<-Lib.size_eq];exact hle.2) EN.out hG,hb2]
        have HM:=hid (show a<b/\b<=s.size from⟨by omega,hle.1⟩)
        have HA:=hid (show a<=s.size/\s.size<=a+gk from⟨ha.out.1,ha.out.2⟩)
        clear hU hY hG hl1 hl2 hn hX hdrop A_ hj hit hm hb2 hle ha hd
        go_wp2_with fail
        refine(HN.out _).mono ?_
        rintro e w2 ⟨rfl,l2⟩
        have H2:=hid (on HB.out l2)
        clear l2
        go_wp2_with fail
        refine(HU.out _).mono ?_
        rintro e w3 ⟨rfl,l2⟩
        have H3:=hid (on H2.out l2)
        clear l2
        go_wp2_with fail
        cases gk with
        |zero=>exact absurd HM.out.1 (by have:=HA.out;have:=HM.out;omega)
        |succ g=>
         go_roundg g
         case measure=>omega
         case rel=>exact⟨b,_,_,false,rfl,rfl,rfl,hid ⟨HM.out.2,by have:=HA.out;have:=HM.out;omega⟩,Kl,HY,H3⟩
       have t93:((s[b+1].toNat:Int)==93)=false:=DC Ec
       have n93:((s[b+1].toNat:Int) !=93)=true:=by show(!((s[b+1].toNat:Int)==93))=true;rw[t93];rfl
       have hj:=JZ hb1 h45 Ec
       cases hlet:l with
       |true=>
        have Lu:=(hl1 hlet).1
        subst Lu
        have HX:Hid (R=(fun _=>false,0,3)):=by
         unfold Hid
         rw[<-hit.out]
         exact BG EN.out (IB (by rw[hn.one,hlet]) hm (by rw[hdrop];exact hj)) (by decide) (fun _=>rfl)
        clear h45 Ec hn hm hit hl1 hl2 hlet hdrop A_ hj hX hb2 hle
        go_wp2_with fail
        refine(HN.out _).mono ?_
        rintro e w2 ⟨rfl,l2⟩
        have H2:=hid (on HB.out l2)
        clear l2
        go_wp2_with fail
        go_ret3
        refine⟨?_,H2.out⟩
        rw[HX.out,Bn (by decide),<-HZ.out];rfl
       |false=>
        obtain⟨Lu,-⟩:=hl2 hlet
        subst Lu
        have tc: ¬((c.toNat:Nat):Int)<0:=by omega
        rw[hlet]at hn
        obtain⟨c2,m2,l2,hn2⟩:=E9 hs.out (b+1)
        by_cases hm2:m2=0
        ·have Gl:=hid (hn2.none hm2)
         have HX:Hid (R=(fun _=>false,0,3)):=by
          unfold Hid
          rw[<-hit.out]
          exact BG EN.out (IC hn.one hm (by rw[hdrop];exact hj) (by rw[A_,hn2.one,hm2])) (by decide) (fun _=>rfl)
         clear h45 Ec hn hm hit hl1 hl2 hlet hdrop A_ hj hX hb2 hle hn2 hm2
         go_wp2_with fail
         refine(HN.out _).mono ?_
         rintro e w2 ⟨rfl,l2⟩
         have H2:=hid (on HB.out l2)
         clear l2
         go_wp2_with fail
         refine(Gl.out _).mono ?_
         rintro e w3 ⟨rfl,l2⟩
         have H3:=hid (on H2.out l2)
         clear l2
         go_wp2_with fail
         go_ret3
         refine⟨?_,H3.out⟩
         rw[HX.out,Bn (by decide),<-HZ.out];rfl
        obtain⟨zD,X2,G2,-,hl3,hl4,J2⟩:=hn2.some hm2
        have hle2:=hn2.le hm2
        obtain⟨d,hd2⟩: ∃d,b+1+m2=d:=⟨_,rfl⟩
        rw[hd2]at J2 hle2
        have Gl:=hid J2
        clear J2
        cases C9:l2 with
        |true=>
         have Lv:=(hl3 C9).1
         subst Lv
         have HX:Hid (R=(fun _=>false,0,3)):=by
          unfold Hid
          rw[<-hit.out]
          exact BG EN.out (Pq hn.one hm (by rw[hdrop];exact hj) (by rw[A_,hn2.one,C9]) hm2) (by decide) (fun _=>rfl)
         clear h45 Ec hn hm hit hl1 hl2 hlet hdrop A_ hj hX hb2 hle hn2 hm2 hl3 hl4 C9 hle2 hd2
         go_wp2_with fail
         refine(HN.out _).mono ?_
         rintro e w2 ⟨rfl,l2⟩
         have H2:=hid (on HB.out l2)
         clear l2
         go_wp2_with fail
         refine(Gl.out _).mono ?_
         rintro e w3 ⟨rfl,l2⟩
         have H3:=hid (on H2.out l2)
         clear l2
         go_wp2_with fail
         go_ret3
         refine⟨?_,H3.out⟩
         rw[HX.out,Bn (by decide),<-HZ.out];rfl
        |false=>
         have Lv:=(hl4 C9).1
         subst Lv
         have zF: ¬((c2.toNat:Nat):Int)<0:=by omega
         by_cases hlt:c2.toNat<c.toNat
         ·have tu:((c2.toNat:Nat):Int)<((c.toNat:Nat):Int):=by omega
          have HX:Hid (R=(fun _=>false,0,4)):=by
           unfold Hid
           rw[<-hit.out]
           exact BG EN.out (Ps hn.one hm (by rw[hdrop];exact hj) (by rw[A_,hn2.one,C9]) hm2 hlt) (by decide) (fun q=>by rw[<-Lib.size_eq]at q;omega)
          clear h45 Ec hn hm hit hl1 hl2 hlet hdrop A_ hj hX hb2 hle hn2 hm2 hl3 hl4 C9 hle2 hd2 hlt
          go_wp2_with fail
          refine(HN.out _).mono ?_
          rintro e w2 ⟨rfl,l2⟩
          have H2:=hid (on HB.out l2)
          clear l2
          go_wp2_with fail
          refine(Gl.out _).mono ?_
          rintro e w3 ⟨rfl,l2⟩
          have H3:=hid (on H2.out l2)
          clear l2
          go_wp2_with fail
          go_ret3
          refine⟨?_,H3.out⟩
          rw[HX.out,Bn (by decide),<-HZ.out];rfl
         have tu: ¬((c2.toNat:Nat):Int)<((c.toNat:Nat):Int):=by omega
         obtain⟨X3,Yd,hS⟩:=JX c c2
         obtain⟨Y,hY,hU⟩:=Bz hd.out Yd
         have jl:=hid hS
         have HU:=hid hU
         have Kl:Hid (Y=tx (fun i=>F i||between c.toNat c2.toNat i)):=hY
         have HY:Hid (CK s.data.toList gk d false (fun i=>F i||between c.toNat c2.toNat i)=R):=by
          unfold Hid
          rw[<-hit.out,Cn (by rw[<-Lib.size_eq];exact hle.2) EN.out (Pt hn.one hm (by rw[hdrop];exact hj) (by rw[A_,hn2.one,C9]) hm2 hlt),<-hd2,<-hb2]
          congr 1
          omega
         have HM:=hid (show a<d/\d<=s.size from⟨by omega,hle2.1⟩)
         have HA:=hid (show a<=s.size/\s.size<=a+gk from⟨ha.out.1,ha.out.2⟩)
         clear h45 Ec hn hm hit hl1 hl2 hlet hdrop A_ hj hX hb2 hle hn2 hm2 hl3 hl4 C9 hle2 hd2 hlt hS hU hY Yd ha hd
         go_wp2_with fail
         refine(HN.out _).mono ?_
         rintro e w2 ⟨rfl,l2⟩
         have H2:=hid (on HB.out l2)
         clear l2
         go_wp2_with fail
         refine(Gl.out _).mono ?_
         rintro e w3 ⟨rfl,l2⟩
         have H3:=hid (on H2.out l2)
         clear l2
         go_wp2_with fail
         refine(jl.out _).mono ?_
         rintro e w4 ⟨rfl,l2⟩
         have H4:=hid (on H3.out l2)
         clear l2
         go_wp2_with fail
         refine(HU.out _).mono ?_
         rintro e w5 ⟨rfl,l2⟩
         have H5:=hid (on H4.out l2)
         clear l2
         go_wp2_with fail
         cases gk with
         |zero=>exact absurd HM.out.1 (by have:=HA.out;have:=HM.out;omega)
         |succ g=>
          go_roundg g
          case measure=>omega
          case rel=>exact⟨d,_,_,false,rfl,rfl,rfl,hid ⟨HM.out.2,by have:=HA.out;have:=HM.out;omega⟩,Kl,HY,H5⟩
      have tZ:(((b+1:Nat):Int)==(s.size:Int))=true:=by simpa using (by omega:((b:Int)+1)=(s.size:Int))
      have hj:=IE hbs h45 hb1
      cases hlet:l with
      |true=>
       have Lu:=(hl1 hlet).1
       subst Lu
       have HX:Hid (R=(fun _=>false,0,3)):=by
        unfold Hid
        rw[<-hit.out]
        exact BG EN.out (IB (by rw[hn.one,hlet]) hm (by rw[hdrop];exact hj)) (by decide) (fun _=>rfl)
       clear h45 hn hm hit hl1 hl2 hlet hdrop A_ hj hX hb2 hle
       go_wp2_with fail
       refine(HN.out _).mono ?_
       rintro e w2 ⟨rfl,l2⟩
       have H2:=hid (on HB.out l2)
       clear l2
       go_wp2_with fail
       go_ret3
       refine⟨?_,H2.out⟩
       rw[HX.out,Bn (by decide),<-HZ.out];rfl
      |false=>
       obtain⟨Lu,-⟩:=hl2 hlet
       subst Lu
       have tc: ¬((c.toNat:Nat):Int)<0:=by omega
       rw[hlet]at hn
       obtain⟨c2,m2,l2,hn2⟩:=E9 hs.out (b+1)
       have hm2:m2=0:=by
        by_cases q:m2=0
        ·exact q
        have:=(hn2.le q).2;omega
       have Gl:Hid (∀w,Calls Tryz.prog 166 #[.string s,.int .i64 (s.size:Int)] w (Fu w (.tuple #[.int .i64 0,.string ⟨#[]⟩,.int .i64 0,.int .i64 3]))):=by
        have:=hn2.none hm2
        rw[show b+1=s.size by omega]at this
        exact this
       have HX:Hid (R=(fun _=>false,0,3)):=by
        unfold Hid
        rw[<-hit.out]
        exact BG EN.out (IC hn.one hm (by rw[hdrop];exact hj) (by rw[A_,hn2.one,hm2])) (by decide) (fun _=>rfl)
       clear h45 hn hm hit hl1 hl2 hlet hdrop A_ hj hX hb2 hle hn2 hm2
       go_wp2_with fail
       refine(HN.out _).mono ?_
       rintro e w2 ⟨rfl,l2⟩
       have H2:=hid (on HB.out l2)
       clear l2
       go_wp2_with fail
       refine(Gl.out _).mono ?_
       rintro e w3 ⟨rfl,l2⟩
       have H3:=hid (on H2.out l2)
       clear l2
       go_wp2_with fail
       go_ret3
       refine⟨?_,H3.out⟩
       rw[HX.out,Bn (by decide),<-HZ.out];rfl
     have t45:((s[b].toNat:Int)==45)=false:=DC h45
     have hj:=Kb hbs h45
     clear h45
     obtain⟨Y,hY,hU⟩:=Bz hd.out hX
     have HU:=hid hU
     have Kl:Hid (Y=tx (fun i=>F i||G i)):=hY
     have hG:item (s.data.toList.drop a)=(m,0,G):=by
      cases hlet:l with
      |true=>rw[hlet]at hn;rw[GR hn.one hm (by rw[hdrop];exact hj),(hl1 hlet).2]
      |false=>rw[hlet]at hn;rw[GU hn.one hm (by rw[hdrop];exact hj),(hl2 hlet).2]
     have HY:Hid (CK s.data.toList gk b false (fun i=>F i||G i)=R):=by
      unfold Hid
      rw[<-hit.out,Cn (by rw[<-Lib.size_eq];exact hle.2) EN.out hG,hb2]
     have HM:=hid (show a<b/\b<=s.size from⟨by omega,hle.1⟩)
     have HA:=hid (show a<=s.size/\s.size<=a+gk from⟨ha.out.1,ha.out.2⟩)
     clear hU hY hG hl1 hl2 hn hX hdrop A_ hj hit hm hb2 hle ha hd
     go_wp2_with fail
     refine(HN.out _).mono ?_
     rintro e w2 ⟨rfl,l2⟩
     have H2:=hid (on HB.out l2)
     clear l2
     go_wp2_with fail
     refine(HU.out _).mono ?_
     rintro e w3 ⟨rfl,l2⟩
     have H3:=hid (on H2.out l2)
     clear l2
     go_wp2_with fail
     cases gk with
     |zero=>exact absurd HM.out.1 (by have:=HA.out;have:=HM.out;omega)
     |succ g=>
      go_roundg g
      case measure=>omega
      case rel=>exact⟨b,_,_,false,rfl,rfl,rfl,hid ⟨HM.out.2,by have:=HA.out;have:=HM.out;omega⟩,Kl,HY,H3⟩
    have tb: ¬(b:Int)<(s.size:Int):=by omega
    have hj:=JY hbs
    obtain⟨Y,hY,hU⟩:=Bz hd.out hX
    have HU:=hid hU
    have Kl:Hid (Y=tx (fun i=>F i||G i)):=hY
    have hG:item (s.data.toList.drop a)=(m,0,G):=by
     cases hlet:l with
     |true=>rw[hlet]at hn;rw[GR hn.one hm (by rw[hdrop];exact hj),(hl1 hlet).2]
     |false=>rw[hlet]at hn;rw[GU hn.one hm (by rw[hdrop];exact hj),(hl2 hlet).2]
    have HY:Hid (CK s.data.toList gk b false (fun i=>F i||G i)=R):=by
     unfold Hid
     rw[<-hit.out,Cn (by rw[<-Lib.size_eq];exact hle.2) EN.out hG,hb2]
    have HM:=hid (show a<b/\b<=s.size from⟨by omega,hle.1⟩)
    have HA:=hid (show a<=s.size/\s.size<=a+gk from⟨ha.out.1,ha.out.2⟩)
    clear hU hY hG hl1 hl2 hn hX hdrop A_ hj hit hm hb2 hle ha hd
    go_wp2_with fail
    refine(HN.out _).mono ?_
    rintro e w2 ⟨rfl,l2⟩
    have H2:=hid (on HB.out l2)
    clear l2
    go_wp2_with fail
    refine(HU.out _).mono ?_
    rintro e w3 ⟨rfl,l2⟩
    have H3:=hid (on H2.out l2)
    clear l2
    go_wp2_with fail
    cases gk with
    |zero=>exact absurd HM.out.1 (by have:=HA.out;have:=HM.out;omega)
    |succ g=>
     go_roundg g
     case measure=>omega
     case rel=>exact⟨b,_,_,false,rfl,rfl,rfl,hid ⟨HM.out.2,by have:=HA.out;have:=HM.out;omega⟩,Kl,HY,H3⟩
   have ti:(s.size:Int)<=(a:Int):=by omega
   have EN:=hid (show¬(s.data.toList.getD a 0=93/\false=false)from fun q=>by
    have h:=q.1
    rw[List.getD_eq_getElem?_getD,List.getElem?_eq_none (by rw[<-Lib.size_eq];omega)]at h
    simp at h)
   obtain⟨c,m,l,hn⟩:=E9 hs.out a
   have hm:m=0:=by
    by_cases q:m=0
    ·exact q
    have:=(hn.le q).2;omega
   have HN:=hid (hn.none hm)
   have HX:Hid (R=(fun _=>false,0,3)):=by
    unfold Hid
    rw[<-hit.out]
    exact BG EN.out (Gm (by rw[hn.one,hm])) (by decide) (fun _=>rfl)
   clear hn hm hit
   go_wp2_with fail
   refine(HN.out _).mono ?_
   rintro e w2 ⟨rfl,l2⟩
   have H2:=hid (on HB.out l2)
   clear l2
   go_wp2_with fail
   go_ret3
   refine⟨?_,H2.out⟩
   rw[HX.out,Bn (by decide),<-HZ.out];rfl
set_option maxHeartbeats 16000000 in
theorem Vw {s:ByteArray} (hs1:s.size<=900) (h0:0<s.size) (FX:s[0]=91) (h1:1<s.size) (Jh: ¬s[1]=94) (w:World):Calls Tryz.prog 154 #[.string s] w (NK w (fin false (CK s.data.toList (s.size-1+1) 1 true (fun _=>false)))):=by
 obtain⟨R,hR⟩: ∃R,CK s.data.toList (s.size-1+1) 1 true (fun _=>false)=R:=⟨_,rfl⟩
 rw[hR]
 have HRR:=hid hR
 have hs:=hid hs1
 have H1:=hid h1
 have he:=Ap h0
 have i0:(0:Int)<(s.size:Int):=by omega
 have i1:(1:Int)<(s.size:Int):=by omega
 have t91:((s[0].toNat:Int)==91)=true:=Db FX
 have n91:((s[0].toNat:Int) !=91)=false:=by show(!((s[0].toNat:Int)==91))=false;rw[t91];rfl
 have t94:((s[1].toNat:Int)==94)=false:=DC Jh
 obtain⟨Z,hZ⟩: ∃Z,tx (fun _=>false)=Z:=⟨_,rfl⟩
 have HZ:=hid hZ
 have tY:=Ka
 rw[hZ]at tY
 have Nr:=hid tY
 clear tY hZ hs1 hR FX Jh
 go_enter Tryz.func154,Tryz.ntmps154
 go_wp2_with fail
 refine(Nr.out _).mono ?_
 rintro e w1 ⟨rfl,l1⟩
 have HB1:=hid l1
 clear l1
 go_wp2_with fail
 rename_i hh K hK
 rw[hh]
 clear hh t94 t91 n91 he
 go_loopg [6,8,9] (s.size-1) (fun gk s6 s8 s9 wr=> ∃(a:Nat) (F:Nat->Bool) (d:ByteArray) (fst:Bool),s6= .int .i64 a/\s8= .string d/\s9= .bool fst/\Hid (a<=s.size/\s.size<=a+gk)/\Hid (d=tx F)/\Hid (CK s.data.toList (gk+1) a fst F=R)/\Hid (Below w.heap.size w wr))
 case atStart=>exact⟨1,fun _=>false,Z,true,rfl,rfl,rfl,hid ⟨by have:=H1.out;omega,by have:=H1.out;omega⟩,HZ.out.symm,HRR,HB1⟩
 case round=>
  obtain⟨a,F,d,fst,rfl,rfl,rfl,ha,hd,hit,HB⟩:=hrel
  cases fst with
  |true=>
   have EN:=hid (show¬(s.data.toList.getD a 0=93/\true=false)from fun q=>by simp at q)
   obtain⟨c,m,l,hn⟩:=E9 hs.out a
   by_cases hm:m=0
   ·have HN:=hid (hn.none hm)
    have HX:Hid (R=(fun _=>false,0,3)):=by
     unfold Hid
     rw[<-hit.out]
     exact BG EN.out (Gm (by rw[hn.one,hm])) (by decide) (fun _=>rfl)
    clear hn hm hit
    go_wp2_with fail
    refine(HN.out _).mono ?_
    rintro e w2 ⟨rfl,l2⟩
    have H2:=hid (on HB.out l2)
    clear l2
    go_wp2_with fail
    go_ret3
    refine⟨?_,H2.out⟩
    rw[HX.out,Bn (by decide),<-HZ.out];rfl
   obtain⟨av,X,G,hX,hl1,hl2,hN⟩:=hn.some hm
   have hle:=hn.le hm
   obtain⟨b,hb2⟩: ∃b,a+m=b:=⟨_,rfl⟩
   have hdrop:(s.data.toList.drop a).drop m=s.data.toList.drop b:=by rw[List.drop_drop,hb2]
   have A_:(s.data.toList.drop a).drop (m+1)=s.data.toList.drop (b+1):=by rw[List.drop_drop,<-hb2,Nat.add_assoc]
   rw[hb2]at hN hle
   have HN:=hid hN
   have hsz:=hs.out
   have hw:wrap64 ((b:Int)+1)=((b+1:Nat):Int):=by unfold wrap64;omega
   clear hN
   by_cases hbs:b<s.size
   ·have tb:(b:Int)<(s.size:Int):=by omega
    by_cases h45:s[b]=45
    ·have t45:((s[b].toNat:Int)==45)=true:=Db h45
     by_cases hb1:b+1<s.size
     ·have zC:((b+1:Nat):Int)<(s.size:Int):=by omega
      have tZ:(((b+1:Nat):Int)==(s.size:Int))=false:=by simpa using (by omega: ¬((b:Int)+1)=(s.size:Int))
      by_cases Ec:s[b+1]=93
      ·have t93:((s[b+1].toNat:Int)==93)=true:=Db Ec
       have n93:((s[b+1].toNat:Int) !=93)=false:=by show(!((s[b+1].toNat:Int)==93))=false;rw[t93];rfl
       have hj:=Kc hb1 Ec
       clear h45 Ec
       obtain⟨Y,hY,hU⟩:=Bz hd.out hX
       have HU:=hid hU
       have Kl:Hid (Y=tx (fun i=>F i||G i)):=hY
       have hG:item (s.data.toList.drop a)=(m,0,G):=by
        cases hlet:l with
        |true=>rw[hlet]at hn;rw[GR hn.one hm (by rw[hdrop];exact hj),(hl1 hlet).2]
        |false=>rw[hlet]at hn;rw[GU hn.one hm (by rw[hdrop];exact hj),(hl2 hlet).2]
       have HY:Hid (CK s.data.toList gk b false (fun i=>F i||G i)=R):=by
        unfold Hid
        rw[<-hit.out,Cn (by rw[<-Lib.size_eq];exact hle.2) EN.out hG,hb2]
       have HM:=hid (show a<b/\b<=s.size from⟨by omega,hle.1⟩)
       have HA:=hid (show a<=s.size/\s.size<=a+gk from⟨ha.out.1,ha.out.2⟩)
       clear hU hY hG hl1 hl2 hn hX hdrop A_ hj hit hm hb2 hle ha hd
       go_wp2_with fail
       refine(HN.out _).mono ?_
       rintro e w2 ⟨rfl,l2⟩
       have H2:=hid (on HB.out l2)
       clear l2
       go_wp2_with fail
       refine(HU.out _).mono ?_
       rintro e w3 ⟨rfl,l2⟩
       have H3:=hid (on H2.out l2)
       clear l2
       go_wp2_with fail
       cases gk with
       |zero=>exact absurd HM.out.1 (by have:=HA.out;have:=HM.out;omega)
       |succ g=>
        go_roundg g
        case measure=>omega
        case rel=>exact⟨b,_,_,false,rfl,rfl,rfl,hid ⟨HM.out.2,by have:=HA.out;have:=HM.out;omega⟩,Kl,HY,H3⟩
      have t93:((s[b+1].toNat:Int)==93)=false:=DC Ec
      have n93:((s[b+1].toNat:Int) !=93)=true:=by show(!((s[b+1].toNat:Int)==93))=true;rw[t93];rfl
      have hj:=JZ hb1 h45 Ec
      cases hlet:l with
      |true=>
       have Lu:=(hl1 hlet).1
       subst Lu
       have HX:Hid (R=(fun _=>false,0,3)):=by
        unfold Hid
        rw[<-hit.out]
        exact BG EN.out (IB (by rw[hn.one,hlet]) hm (by rw[hdrop];exact hj)) (by decide) (fun _=>rfl)
       clear h45 Ec hn hm hit hl1 hl2 hlet hdrop A_ hj hX hb2 hle
       go_wp2_with fail
       refine(HN.out _).mono ?_
       rintro e w2 ⟨rfl,l2⟩
       have H2:=hid (on HB.out l2)
       clear l2
       go_wp2_with fail
       go_ret3
       refine⟨?_,H2.out⟩
       rw[HX.out,Bn (by decide),<-HZ.out];rfl
      |false=>
       obtain⟨Lu,-⟩:=hl2 hlet
       subst Lu
       have tc: ¬((c.toNat:Nat):Int)<0:=by omega
       rw[hlet]at hn
       obtain⟨c2,m2,l2,hn2⟩:=E9 hs.out (b+1)
       by_cases hm2:m2=0
       ·have Gl:=hid (hn2.none hm2)
        have HX:Hid (R=(fun _=>false,0,3)):=by
         unfold Hid
         rw[<-hit.out]
         exact BG EN.out (IC hn.one hm (by rw[hdrop];exact hj) (by rw[A_,hn2.one,hm2])) (by decide) (fun _=>rfl)
        clear h45 Ec hn hm hit hl1 hl2 hlet hdrop A_ hj hX hb2 hle hn2 hm2
        go_wp2_with fail
        refine(HN.out _).mono ?_
        rintro e w2 ⟨rfl,l2⟩
        have H2:=hid (on HB.out l2)
        clear l2
        go_wp2_with fail
        refine(Gl.out _).mono ?_
        rintro e w3 ⟨rfl,l2⟩
        have H3:=hid (on H2.out l2)
        clear l2
        go_wp2_with fail
        go_ret3
        refine⟨?_,H3.out⟩
        rw[HX.out,Bn (by decide),<-HZ.out];rfl
       obtain⟨zD,X2,G2,-,hl3,hl4,J2⟩:=hn2.some hm2
       have hle2:=hn2.le hm2
       obtain⟨d,hd2⟩: ∃d,b+1+m2=d:=⟨_,rfl⟩
       rw[hd2]at J2 hle2
       have Gl:=hid J2
       clear J2
       cases C9:l2 with
       |true=>
        have Lv:=(hl3 C9).1
        subst Lv
        have HX:Hid (R=(fun _=>false,0,3)):=by
         unfold Hid
         rw[<-hit.out]
         exact BG EN.out (Pq hn.one hm (by rw[hdrop];exact hj) (by rw[A_,hn2.one,C9]) hm2) (by decide) (fun _=>rfl)
        clear h45 Ec hn hm hit hl1 hl2 hlet hdrop A_ hj hX hb2 hle hn2 hm2 hl3 hl4 C9 hle2 hd2
        go_wp2_with fail
        refine(HN.out _).mono ?_
        rintro e w2 ⟨rfl,l2⟩
        have H2:=hid (on HB.out l2)
        clear l2
        go_wp2_with fail
        refine(Gl.out _).mono ?_
        rintro e w3 ⟨rfl,l2⟩
        have H3:=hid (on H2.out l2)
        clear l2
        go_wp2_with fail
        go_ret3
        refine⟨?_,H3.out⟩
        rw[HX.out,Bn (by decide),<-HZ.out];rfl
       |false=>
        have Lv:=(hl4 C9).1
        subst Lv
        have zF: ¬((c2.toNat:Nat):Int)<0:=by omega
        by_cases hlt:c2.toNat<c.toNat
        ·have tu:((c2.toNat:Nat):Int)<((c.toNat:Nat):Int):=by omega
         have HX:Hid (R=(fun _=>false,0,4)):=by
          unfold Hid
          rw[<-hit.out]
          exact BG EN.out (Ps hn.one hm (by rw[hdrop];exact hj) (by rw[A_,hn2.one,C9]) hm2 hlt) (by decide) (fun q=>by rw[<-Lib.size_eq]at q;omega)
         clear h45 Ec hn hm hit hl1 hl2 hlet hdrop A_ hj hX hb2 hle hn2 hm2 hl3 hl4 C9 hle2 hd2 hlt
         go_wp2_with fail
         refine(HN.out _).mono ?_
         rintro e w2 ⟨rfl,l2⟩
         have H2:=hid (on HB.out l2)
         clear l2
         go_wp2_with fail
         refine(Gl.out _).mono ?_
         rintro e w3 ⟨rfl,l2⟩
         have H3:=hid (on H2.out l2)
         clear l2
         go_wp2_with fail
         go_ret3
         refine⟨?_,H3.out⟩
         rw[HX.out,Bn (by decide),<-HZ.out];rfl
        have tu: ¬((c2.toNat:Nat):Int)<((c.toNat:Nat):Int):=by omega
        obtain⟨X3,Yd,hS⟩:=JX c c2
        obtain⟨Y,hY,hU⟩:=Bz hd.out Yd
        have jl:=hid hS
        have HU:=hid hU
        have Kl:Hid (Y=tx (fun i=>F i||between c.toNat c2.toNat i)):=hY
        have HY:Hid (CK s.data.toList gk d false (fun i=>F i||between c.toNat c2.toNat i)=R):=by
         unfold Hid
         rw[<-hit.out,Cn (by rw[<-Lib.size_eq];exact hle.2) EN.out (Pt hn.one hm (by rw[hdrop];exact hj) (by rw[A_,hn2.one,C9]) hm2 hlt),<-hd2,<-hb2]
         congr 1
         omega
        have HM:=hid (show a<d/\d<=s.size from⟨by omega,hle2.1⟩)
        have HA:=hid (show a<=s.size/\s.size<=a+gk from⟨ha.out.1,ha.out.2⟩)
        clear h45 Ec hn hm hit hl1 hl2 hlet hdrop A_ hj hX hb2 hle hn2 hm2 hl3 hl4 C9 hle2 hd2 hlt hS hU hY Yd ha hd
        go_wp2_with fail
        refine(HN.out _).mono ?_
        rintro e w2 ⟨rfl,l2⟩
        have H2:=hid (on HB.out l2)
        clear l2
        go_wp2_with fail
        refine(Gl.out _).mono ?_
        rintro e w3 ⟨rfl,l2⟩
        have H3:=hid (on H2.out l2)
        clear l2
        go_wp2_with fail
        refine(jl.out _).mono ?_
        rintro e w4 ⟨rfl,l2⟩
        have H4:=hid (on H3.out l2)
        clear l2
        go_wp2_with fail
        refine(HU.out _).mono ?_
        rintro e w5 ⟨rfl,l2⟩
        have H5:=hid (on H4.out l2)
        clear l2
        go_wp2_with fail
        cases gk with
        |zero=>exact absurd HM.out.1 (by have:=HA.out;have:=HM.out;omega)
        |succ g=>
         go_roundg g
         case measure=>omega
         case rel=>exact⟨d,_,_,false,rfl,rfl,rfl,hid ⟨HM.out.2,by have:=HA.out;have:=HM.out;omega⟩,Kl,HY,H5⟩
     have tZ:(((b+1:Nat):Int)==(s.size:Int))=true:=by simpa using (by omega:((b:Int)+1)=(s.size:Int))
     have hj:=IE hbs h45 hb1
     cases hlet:l with
     |true=>
      have Lu:=(hl1 hlet).1
      subst Lu
      have HX:Hid (R=(fun _=>false,0,3)):=by
       unfold Hid
       rw[<-hit.out]
       exact BG EN.out (IB (by rw[hn.one,hlet]) hm (by rw[hdrop];exact hj)) (by decide) (fun _=>rfl)
      clear h45 hn hm hit hl1 hl2 hlet hdrop A_ hj hX hb2 hle
      go_wp2_with fail
      refine(HN.out _).mono ?_
      rintro e w2 ⟨rfl,l2⟩
      have H2:=hid (on HB.out l2)
      clear l2
      go_wp2_with fail
      go_ret3
      refine⟨?_,H2.out⟩
      rw[HX.out,Bn (by decide),<-HZ.out];rfl
     |false=>
      obtain⟨Lu,-⟩:=hl2 hlet
      subst Lu
      have tc: ¬((c.toNat:Nat):Int)<0:=by omega
      rw[hlet]at hn
      obtain⟨c2,m2,l2,hn2⟩:=E9 hs.out (b+1)
      have hm2:m2=0:=by
       by_cases q:m2=0
       ·exact q
       have:=(hn2.le q).2;omega
      have Gl:Hid (∀w,Calls Tryz.prog 166 #[.string s,.int .i64 (s.size:Int)] w (Fu w (.tuple #[.int .i64 0,.string ⟨#[]⟩,.int .i64 0,.int .i64 3]))):=by
       have:=hn2.none hm2
       rw[show b+1=s.size by omega]at this
       exact this
      have HX:Hid (R=(fun _=>false,0,3)):=by
       unfold Hid
       rw[<-hit.out]
       exact BG EN.out (IC hn.one hm (by rw[hdrop];exact hj) (by rw[A_,hn2.one,hm2])) (by decide) (fun _=>rfl)
      clear h45 hn hm hit hl1 hl2 hlet hdrop A_ hj hX hb2 hle hn2 hm2
      go_wp2_with fail
      refine(HN.out _).mono ?_
      rintro e w2 ⟨rfl,l2⟩
      have H2:=hid (on HB.out l2)
      clear l2
      go_wp2_with fail
      refine(Gl.out _).mono ?_
      rintro e w3 ⟨rfl,l2⟩
      have H3:=hid (on H2.out l2)
      clear l2
      go_wp2_with fail
      go_ret3
      refine⟨?_,H3.out⟩
      rw[HX.out,Bn (by decide),<-HZ.out];rfl
    have t45:((s[b].toNat:Int)==45)=false:=DC h45
    have hj:=Kb hbs h45
    clear h45
    obtain⟨Y,hY,hU⟩:=Bz hd.out hX
    have HU:=hid hU
    have Kl:Hid (Y=tx (fun i=>F i||G i)):=hY
    have hG:item (s.data.toList.drop a)=(m,0,G):=by
     cases hlet:l with
     |true=>rw[hlet]at hn;rw[GR hn.one hm (by rw[hdrop];exact hj),(hl1 hlet).2]
     |false=>rw[hlet]at hn;rw[GU hn.one hm (by rw[hdrop];exact hj),(hl2 hlet).2]
    have HY:Hid (CK s.data.toList gk b false (fun i=>F i||G i)=R):=by
     unfold Hid
     rw[<-hit.out,Cn (by rw[<-Lib.size_eq];exact hle.2) EN.out hG,hb2]
    have HM:=hid (show a<b/\b<=s.size from⟨by omega,hle.1⟩)
    have HA:=hid (show a<=s.size/\s.size<=a+gk from⟨ha.out.1,ha.out.2⟩)
    clear hU hY hG hl1 hl2 hn hX hdrop A_ hj hit hm hb2 hle ha hd
    go_wp2_with fail
    refine(HN.out _).mono ?_
    rintro e w2 ⟨rfl,l2⟩
    have H2:=hid (on HB.out l2)
    clear l2
    go_wp2_with fail
    refine(HU.out _).mono ?_
    rintro e w3 ⟨rfl,l2⟩
    have H3:=hid (on H2.out l2)
    clear l2
    go_wp2_with fail
    cases gk with
    |zero=>exact absurd HM.out.1 (by have:=HA.out;have:=HM.out;omega)
    |succ g=>
     go_roundg g
     case measure=>omega
     case rel=>exact⟨b,_,_,false,rfl,rfl,rfl,hid ⟨HM.out.2,by have:=HA.out;have:=HM.out;omega⟩,Kl,HY,H3⟩
   have tb: ¬(b:Int)<(s.size:Int):=by omega
   have hj:=JY hbs
   obtain⟨Y,hY,hU⟩:=Bz hd.out hX
   have HU:=hid hU
   have Kl:Hid (Y=tx (fun i=>F i||G i)):=hY
   have hG:item (s.data.toList.drop a)=(m,0,G):=by
    cases hlet:l with
    |true=>rw[hlet]at hn;rw[GR hn.one hm (by rw[hdrop];exact hj),(hl1 hlet).2]
    |false=>rw[hlet]at hn;rw[GU hn.one hm (by rw[hdrop];exact hj),(hl2 hlet).2]
   have HY:Hid (CK s.data.toList gk b false (fun i=>F i||G i)=R):=by
    unfold Hid
    rw[<-hit.out,Cn (by rw[<-Lib.size_eq];exact hle.2) EN.out hG,hb2]
   have HM:=hid (show a<b/\b<=s.size from⟨by omega,hle.1⟩)
   have HA:=hid (show a<=s.size/\s.size<=a+gk from⟨ha.out.1,ha.out.2⟩)
   clear hU hY hG hl1 hl2 hn hX hdrop A_ hj hit hm hb2 hle ha hd
   go_wp2_with fail
   refine(HN.out _).mono ?_
   rintro e w2 ⟨rfl,l2⟩
   have H2:=hid (on HB.out l2)
   clear l2
   go_wp2_with fail
   refine(HU.out _).mono ?_
   rintro e w3 ⟨rfl,l2⟩
   have H3:=hid (on H2.out l2)
   clear l2
   go_wp2_with fail
   cases gk with
   |zero=>exact absurd HM.out.1 (by have:=HA.out;have:=HM.out;omega)
   |succ g=>
    go_roundg g
    case measure=>omega
    case rel=>exact⟨b,_,_,false,rfl,rfl,rfl,hid ⟨HM.out.2,by have:=HA.out;have:=HM.out;omega⟩,Kl,HY,H3⟩
  |false=>
   by_cases hlt:a<s.size
   ·have ti: ¬(s.size:Int)<=(a:Int):=by omega
    have tl:(a:Int)<(s.size:Int):=by omega
    have hga:s.data.toList.getD a 0=s[a]:=Kit.CO s a hlt
    by_cases Ec:s[a]=93
    ·have t93:((s[a].toNat:Int)==93)=true:=Db Ec
     have n93:((s[a].toNat:Int) !=93)=false:=by show(!((s[a].toNat:Int)==93))=false;rw[t93];rfl
     have HX:Hid (R=(F,a+1,0)):=by
      unfold Hid
      rw[<-hit.out]
      exact SB (by rw[<-Lib.size_eq];exact hlt) (by rw[hga];exact Ec)
     have hsz:=hs.out
     have hw:wrap64 ((a:Int)+1)=((a+1:Nat):Int):=by unfold wrap64;omega
     clear hit Ec hga
     go_wp2_with fail
     go_ret3
     refine⟨?_,HB.out⟩
     rw[HX.out,tQ,hd.out];rfl
    have t93:((s[a].toNat:Int)==93)=false:=DC Ec
    have n93:((s[a].toNat:Int) !=93)=true:=by show(!((s[a].toNat:Int)==93))=true;rw[t93];rfl
    have EN:=hid (show¬(s.data.toList.getD a 0=93/\false=false)from fun q=>Ec (by rw[<-hga];exact q.1))
    clear Ec hga
    obtain⟨c,m,l,hn⟩:=E9 hs.out a
    by_cases hm:m=0
    ·have HN:=hid (hn.none hm)
     have HX:Hid (R=(fun _=>false,0,3)):=by
      unfold Hid
      rw[<-hit.out]
      exact BG EN.out (Gm (by rw[hn.one,hm])) (by decide) (fun _=>rfl)
     clear hn hm hit
     go_wp2_with fail
     refine(HN.out _).mono ?_
     rintro e w2 ⟨rfl,l2⟩
     have H2:=hid (on HB.out l2)
     clear l2
     go_wp2_with fail
     go_ret3
     refine⟨?_,H2.out⟩
     rw[HX.out,Bn (by decide),<-HZ.out];rfl
    obtain⟨av,X,G,hX,hl1,hl2,hN⟩:=hn.some hm
    have hle:=hn.le hm
    obtain⟨b,hb2⟩: ∃b,a+m=b:=⟨_,rfl⟩
    have hdrop:(s.data.toList.drop a).drop m=s.data.toList.drop b:=by rw[List.drop_drop,hb2]
    have A_:(s.data.toList.drop a).drop (m+1)=s.data.toList.drop (b+1):=by rw[List.drop_drop,<-hb2,Nat.add_assoc]
    rw[hb2]at hN hle
    have HN:=hid hN
    have hsz:=hs.out
    have hw:wrap64 ((b:Int)+1)=((b+1:Nat):Int):=by unfold wrap64;omega
    clear hN
    by_cases hbs:b<s.size
    ·have tb:(b:Int)<(s.size:Int):=by omega
     by_cases h45:s[b]=45
     ·have t45:((s[b].toNat:Int)==45)=true:=Db h45
      by_cases hb1:b+1<s.size
      ·have zC:((b+1:Nat):Int)<(s.size:Int):=by omega
       have tZ:(((b+1:Nat):Int)==(s.size:Int))=false:=by simpa using (by omega: ¬((b:Int)+1)=(s.size:Int))
       by_cases Ec:s[b+1]=93
       ·have t93:((s[b+1].toNat:Int)==93)=true:=Db Ec
        have n93:((s[b+1].toNat:Int) !=93)=false:=by show(!((s[b+1].toNat:Int)==93))=false;rw[t93];rfl
        have hj:=Kc hb1 Ec
        clear h45 Ec
        obtain⟨Y,hY,hU⟩:=Bz hd.out hX
        have HU:=hid hU
        have Kl:Hid (Y=tx (fun i=>F i||G i)):=hY
        have hG:item (s.data.toList.drop a)=(m,0,G):=by
         cases hlet:l with
         |true=>rw[hlet]at hn;rw[GR hn.one hm (by rw[hdrop];exact hj),(hl1 hlet).2]
         |false=>rw[hlet]at hn;rw[GU hn.one hm (by rw[hdrop];exact hj),(hl2 hlet).2]
        have HY:Hid (CK s.data.toList gk b false (fun i=>F i||G i)=R):=by
         unfold Hid
         rw[<-hit.out,Cn (by rw[<-Lib.size_eq];exact hle.2) EN.out hG,hb2]
        have HM:=hid (show a<b/\b<=s.size from⟨by omega,hle.1⟩)
        have HA:=hid (show a<=s.size/\s.size<=a+gk from⟨ha.out.1,ha.out.2⟩)
        clear hU hY hG hl1 hl2 hn hX hdrop A_ hj hit hm hb2 hle ha hd
        go_wp2_with fail
        refine(HN.out _).mono ?_
        rintro e w2 ⟨rfl,l2⟩
        have H2:=hid (on HB.out l2)
        clear l2
        go_wp2_with fail
        refine(HU.out _).mono ?_
        rintro e w3 ⟨rfl,l2⟩
        have H3:=hid (on H2.out l2)
        clear l2
        go_wp2_with fail
        cases gk with
        |zero=>exact absurd HM.out.1 (by have:=HA.out;have:=HM.out;omega)
        |succ g=>
         go_roundg g
         case measure=>omega
         case rel=>exact⟨b,_,_,false,rfl,rfl,rfl,hid ⟨HM.out.2,by have:=HA.out;have:=HM.out;omega⟩,Kl,HY,H3⟩
       have t93:((s[b+1].toNat:Int)==93)=false:=DC Ec
       have n93:((s[b+1].toNat:Int) !=93)=true:=by show(!((s[b+1].toNat:Int)==93))=true;rw[t93];rfl
       have hj:=JZ hb1 h45 Ec
       cases hlet:l with
       |true=>
        have Lu:=(hl1 hlet).1
        subst Lu
        have HX:Hid (R=(fun _=>false,0,3)):=by
         unfold Hid
         rw[<-hit.out]
         exact BG EN.out (IB (by rw[hn.one,hlet]) hm (by rw[hdrop];exact hj)) (by decide) (fun _=>rfl)
        clear h45 Ec hn hm hit hl1 hl2 hlet hdrop A_ hj hX hb2 hle
        go_wp2_with fail
        refine(HN.out _).mono ?_
        rintro e w2 ⟨rfl,l2⟩
        have H2:=hid (on HB.out l2)
        clear l2
        go_wp2_with fail
        go_ret3
        refine⟨?_,H2.out⟩
        rw[HX.out,Bn (by decide),<-HZ.out];rfl
       |false=>
        obtain⟨Lu,-⟩:=hl2 hlet
        subst Lu
        have tc: ¬((c.toNat:Nat):Int)<0:=by omega
        rw[hlet]at hn
        obtain⟨c2,m2,l2,hn2⟩:=E9 hs.out (b+1)
        by_cases hm2:m2=0
        ·have Gl:=hid (hn2.none hm2)
         have HX:Hid (R=(fun _=>false,0,3)):=by
          unfold Hid
          rw[<-hit.out]
          exact BG EN.out (IC hn.one hm (by rw[hdrop];exact hj) (by rw[A_,hn2.one,hm2])) (by decide) (fun _=>rfl)
         clear h45 Ec hn hm hit hl1 hl2 hlet hdrop A_ hj hX hb2 hle hn2 hm2
         go_wp2_with fail
         refine(HN.out _).mono ?_
         rintro e w2 ⟨rfl,l2⟩
         have H2:=hid (on HB.out l2)
         clear l2
         go_wp2_with fail
         refine(Gl.out _).mono ?_
         rintro e w3 ⟨rfl,l2⟩
         have H3:=hid (on H2.out l2)
         clear l2
         go_wp2_with fail
         go_ret3
         refine⟨?_,H3.out⟩
         rw[HX.out,Bn (by decide),<-HZ.out];rfl
        obtain⟨zD,X2,G2,-,hl3,hl4,J2⟩:=hn2.some hm2
        have hle2:=hn2.le hm2
        obtain⟨d,hd2⟩: ∃d,b+1+m2=d:=⟨_,rfl⟩
        rw[hd2]at J2 hle2
        have Gl:=hid J2
        clear J2
        cases C9:l2 with
        |true=>
         have Lv:=(hl3 C9).1
         subst Lv
         have HX:Hid (R=(fun _=>false,0,3)):=by
          unfold Hid
          rw[<-hit.out]
          exact BG EN.out (Pq hn.one hm (by rw[hdrop];exact hj) (by rw[A_,hn2.one,C9]) hm2) (by decide) (fun _=>rfl)
         clear h45 Ec hn hm hit hl1 hl2 hlet hdrop A_ hj hX hb2 hle hn2 hm2 hl3 hl4 C9 hle2 hd2
         go_wp2_with fail
         refine(HN.out _).mono ?_
         rintro e w2 ⟨rfl,l2⟩
         have H2:=hid (on HB.out l2)
         clear l2
         go_wp2_with fail
         refine(Gl.out _).mono ?_
         rintro e w3 ⟨rfl,l2⟩
         have H3:=hid (on H2.out l2)
         clear l2
         go_wp2_with fail
         go_ret3
         refine⟨?_,H3.out⟩
         rw[HX.out,Bn (by decide),<-HZ.out];rfl
        |false=>
         have Lv:=(hl4 C9).1
         subst Lv
         have zF: ¬((c2.toNat:Nat):Int)<0:=by omega
         by_cases hlt:c2.toNat<c.toNat
         ·have tu:((c2.toNat:Nat):Int)<((c.toNat:Nat):Int):=by omega
          have HX:Hid (R=(fun _=>false,0,4)):=by
           unfold Hid
           rw[<-hit.out]
           exact BG EN.out (Ps hn.one hm (by rw[hdrop];exact hj) (by rw[A_,hn2.one,C9]) hm2 hlt) (by decide) (fun q=>by rw[<-Lib.size_eq]at q;omega)
          clear h45 Ec hn hm hit hl1 hl2 hlet hdrop A_ hj hX hb2 hle hn2 hm2 hl3 hl4 C9 hle2 hd2 hlt
          go_wp2_with fail
          refine(HN.out _).mono ?_
          rintro e w2 ⟨rfl,l2⟩
          have H2:=hid (on HB.out l2)
          clear l2
          go_wp2_with fail
          refine(Gl.out _).mono ?_
          rintro e w3 ⟨rfl,l2⟩
          have H3:=hid (on H2.out l2)
          clear l2
          go_wp2_with fail
          go_ret3
          refine⟨?_,H3.out⟩
          rw[HX.out,Bn (by decide),<-HZ.out];rfl
         have tu: ¬((c2.toNat:Nat):Int)<((c.toNat:Nat):Int):=by omega
         obtain⟨X3,Yd,hS⟩:=JX c c2
         obtain⟨Y,hY,hU⟩:=Bz hd.out Yd
         have jl:=hid hS
         have HU:=hid hU
         have Kl:Hid (Y=tx (fun i=>F i||between c.toNat c2.toNat i)):=hY
         have HY:Hid (CK s.data.toList gk d false (fun i=>F i||between c.toNat c2.toNat i)=R):=by
          unfold Hid
          rw[<-hit.out,Cn (by rw[<-Lib.size_eq];exact hle.2) EN.out (Pt hn.one hm (by rw[hdrop];exact hj) (by rw[A_,hn2.one,C9]) hm2 hlt),<-hd2,<-hb2]
          congr 1
          omega
         have HM:=hid (show a<d/\d<=s.size from⟨by omega,hle2.1⟩)
         have HA:=hid (show a<=s.size/\s.size<=a+gk from⟨ha.out.1,ha.out.2⟩)
         clear h45 Ec hn hm hit hl1 hl2 hlet hdrop A_ hj hX hb2 hle hn2 hm2 hl3 hl4 C9 hle2 hd2 hlt hS hU hY Yd ha hd
         go_wp2_with fail
         refine(HN.out _).mono ?_
         rintro e w2 ⟨rfl,l2⟩
         have H2:=hid (on HB.out l2)
         clear l2
         go_wp2_with fail
         refine(Gl.out _).mono ?_
         rintro e w3 ⟨rfl,l2⟩
         have H3:=hid (on H2.out l2)
         clear l2
         go_wp2_with fail
         refine(jl.out _).mono ?_
         rintro e w4 ⟨rfl,l2⟩
         have H4:=hid (on H3.out l2)
         clear l2
         go_wp2_with fail
         refine(HU.out _).mono ?_
         rintro e w5 ⟨rfl,l2⟩
         have H5:=hid (on H4.out l2)
         clear l2
         go_wp2_with fail
         cases gk with
         |zero=>exact absurd HM.out.1 (by have:=HA.out;have:=HM.out;omega)
         |succ g=>
          go_roundg g
          case measure=>omega
          case rel=>exact⟨d,_,_,false,rfl,rfl,rfl,hid ⟨HM.out.2,by have:=HA.out;have:=HM.out;omega⟩,Kl,HY,H5⟩
      have tZ:(((b+1:Nat):Int)==(s.size:Int))=true:=by simpa using (by omega:((b:Int)+1)=(s.size:Int))
      have hj:=IE hbs h45 hb1
      cases hlet:l with
      |true=>
       have Lu:=(hl1 hlet).1
       subst Lu
       have HX:Hid (R=(fun _=>false,0,3)):=by
        unfold Hid
        rw[<-hit.out]
        exact BG EN.out (IB (by rw[hn.one,hlet]) hm (by rw[hdrop];exact hj)) (by decide) (fun _=>rfl)
       clear h45 hn hm hit hl1 hl2 hlet hdrop A_ hj hX hb2 hle
       go_wp2_with fail
       refine(HN.out _).mono ?_
       rintro e w2 ⟨rfl,l2⟩
       have H2:=hid (on HB.out l2)
       clear l2
       go_wp2_with fail
       go_ret3
       refine⟨?_,H2.out⟩
       rw[HX.out,Bn (by decide),<-HZ.out];rfl
      |false=>
       obtain⟨Lu,-⟩:=hl2 hlet
       subst Lu
       have tc: ¬((c.toNat:Nat):Int)<0:=by omega
       rw[hlet]at hn
       obtain⟨c2,m2,l2,hn2⟩:=E9 hs.out (b+1)
       have hm2:m2=0:=by
        by_cases q:m2=0
        ·exact q
        have:=(hn2.le q).2;omega
       have Gl:Hid (∀w,Calls Tryz.prog 166 #[.string s,.int .i64 (s.size:Int)] w (Fu w (.tuple #[.int .i64 0,.string ⟨#[]⟩,.int .i64 0,.int .i64 3]))):=by
        have:=hn2.none hm2
        rw[show b+1=s.size by omega]at this
        exact this
       have HX:Hid (R=(fun _=>false,0,3)):=by
        unfold Hid
        rw[<-hit.out]
        exact BG EN.out (IC hn.one hm (by rw[hdrop];exact hj) (by rw[A_,hn2.one,hm2])) (by decide) (fun _=>rfl)
       clear h45 hn hm hit hl1 hl2 hlet hdrop A_ hj hX hb2 hle hn2 hm2
       go_wp2_with fail
       refine(HN.out _).mono ?_
       rintro e w2 ⟨rfl,l2⟩
       have H2:=hid (on HB.out l2)
       clear l2
       go_wp2_with fail
       refine(Gl.out _).mono ?_
       rintro e w3 ⟨rfl,l2⟩
       have H3:=hid (on H2.out l2)
       clear l2
       go_wp2_with fail
       go_ret3
       refine⟨?_,H3.out⟩
       rw[HX.out,Bn (by decide),<-HZ.out];rfl
     have t45:((s[b].toNat:Int)==45)=false:=DC h45
     have hj:=Kb hbs h45
     clear h45
     obtain⟨Y,hY,hU⟩:=Bz hd.out hX
     have HU:=hid hU
     have Kl:Hid (Y=tx (fun i=>F i||G i)):=hY
     have hG:item (s.data.toList.drop a)=(m,0,G):=by
      cases hlet:l with
      |true=>rw[hlet]at hn;rw[GR hn.one hm (by rw[hdrop];exact hj),(hl1 hlet).2]
      |false=>rw[hlet]at hn;rw[GU hn.one hm (by rw[hdrop];exact hj),(hl2 hlet).2]
     have HY:Hid (CK s.data.toList gk b false (fun i=>F i||G i)=R):=by
      unfold Hid
      rw[<-hit.out,Cn (by rw[<-Lib.size_eq];exact hle.2) EN.out hG,hb2]
     have HM:=hid (show a<b/\b<=s.size from⟨by omega,hle.1⟩)
     have HA:=hid (show a<=s.size/\s.size<=a+gk from⟨ha.out.1,ha.out.2⟩)
     clear hU hY hG hl1 hl2 hn hX hdrop A_ hj hit hm hb2 hle ha hd
     go_wp2_with fail
     refine(HN.out _).mono ?_
     rintro e w2 ⟨rfl,l2⟩
     have H2:=hid (on HB.out l2)
     clear l2
     go_wp2_with fail
     refine(HU.out _).mono ?_
     rintro e w3 ⟨rfl,l2⟩
     have H3:=hid (on H2.out l2)
     clear l2
     go_wp2_with fail
     cases gk with
     |zero=>exact absurd HM.out.1 (by have:=HA.out;have:=HM.out;omega)
     |succ g=>
      go_roundg g
      case measure=>omega
      case rel=>exact⟨b,_,_,false,rfl,rfl,rfl,hid ⟨HM.out.2,by have:=HA.out;have:=HM.out;omega⟩,Kl,HY,H3⟩
    have tb: ¬(b:Int)<(s.size:Int):=by omega
    have hj:=JY hbs
    obtain⟨Y,hY,hU⟩:=Bz hd.out hX
    have HU:=hid hU
    have Kl:Hid (Y=tx (fun i=>F i||G i)):=hY
    have hG:item (s.data.toList.drop a)=(m,0,G):=by
     cases hlet:l with
     |true=>rw[hlet]at hn;rw[GR hn.one hm (by rw[hdrop];exact hj),(hl1 hlet).2]
     |false=>rw[hlet]at hn;rw[GU hn.one hm (by rw[hdrop];exact hj),(hl2 hlet).2]
    have HY:Hid (CK s.data.toList gk b false (fun i=>F i||G i)=R):=by
     unfold Hid
     rw[<-hit.out,Cn (by rw[<-Lib.size_eq];exact hle.2) EN.out hG,hb2]
    have HM:=hid (show a<b/\b<=s.size from⟨by omega,hle.1⟩)
    have HA:=hid (show a<=s.size/\s.size<=a+gk from⟨ha.out.1,ha.out.2⟩)
    clear hU hY hG hl1 hl2 hn hX hdrop A_ hj hit hm hb2 hle ha hd
    go_wp2_with fail
    refine(HN.out _).mono ?_
    rintro e w2 ⟨rfl,l2⟩
    have H2:=hid (on HB.out l2)
    clear l2
    go_wp2_with fail
    refine(HU.out _).mono ?_
    rintro e w3 ⟨rfl,l2⟩
    have H3:=hid (on H2.out l2)
    clear l2
    go_wp2_with fail
    cases gk with
    |zero=>exact absurd HM.out.1 (by have:=HA.out;have:=HM.out;omega)
    |succ g=>
     go_roundg g
     case measure=>omega
     case rel=>exact⟨b,_,_,false,rfl,rfl,rfl,hid ⟨HM.out.2,by have:=HA.out;have:=HM.out;omega⟩,Kl,HY,H3⟩
   have ti:(s.size:Int)<=(a:Int):=by omega
   have EN:=hid (show¬(s.data.toList.getD a 0=93/\false=false)from fun q=>by
    have h:=q.1
    rw[List.getD_eq_getElem?_getD,List.getElem?_eq_none (by rw[<-Lib.size_eq];omega)]at h
    simp at h)
   obtain⟨c,m,l,hn⟩:=E9 hs.out a
   have hm:m=0:=by
    by_cases q:m=0
    ·exact q
    have:=(hn.le q).2;omega
   have HN:=hid (hn.none hm)
   have HX:Hid (R=(fun _=>false,0,3)):=by
    unfold Hid
    rw[<-hit.out]
    exact BG EN.out (Gm (by rw[hn.one,hm])) (by decide) (fun _=>rfl)
   clear hn hm hit
   go_wp2_with fail
   refine(HN.out _).mono ?_
   rintro e w2 ⟨rfl,l2⟩
   have H2:=hid (on HB.out l2)
   clear l2
   go_wp2_with fail
   go_ret3
   refine⟨?_,H2.out⟩
   rw[HX.out,Bn (by decide),<-HZ.out];rfl
theorem Vx {s:ByteArray} (h0:0<s.size) (FX: ¬s[0]=91) (w:World):Calls Tryz.prog 154 #[.string s] w (NK w (fun _=>false,0,3)):=by
 have he:=Ap h0
 have i0:(0:Int)<(s.size:Int):=by omega
 have t91:((s[0].toNat:Int)==91)=false:=DC FX
 have n91:((s[0].toNat:Int) !=91)=true:=by show(!((s[0].toNat:Int)==91))=true;rw[t91];rfl
 clear FX
 go_enter Tryz.func154,Tryz.ntmps154
 go_wp2_with fail
 refine(Ka _).mono ?_
 rintro e w1 ⟨rfl,l1⟩
 have HB1:=hid l1
 clear l1
 go_wp2_with fail
 go_ret3
 exact⟨rfl,HB1.out⟩
theorem TZ {s:ByteArray} (h0:0<s.size) (hs1:s.size=1) (FX:s[0]'h0=91) (w:World):Calls Tryz.prog 154 #[.string s] w (NK w (fun _=>false,0,3)):=by
 have he:=Ap (s:=s) (by omega)
 have i0:(0:Int)<(s.size:Int):=by omega
 have i1: ¬(1:Int)<(s.size:Int):=by omega
 have t91:(((s[0]'h0).toNat:Int)==91)=true:=Db FX
 have n91:(((s[0]'h0).toNat:Int) !=91)=false:=by show(!(((s[0]'h0).toNat:Int)==91))=false;rw[t91];rfl
 obtain⟨c,m,l,hn⟩:=E9 (s:=s) (by omega) 1
 have hm:m=0:=by
  by_cases q:m=0
  ·exact q
  have:=(hn.le q).2;omega
 have HN:Hid (∀w,Calls Tryz.prog 166 #[.string s,.int .i64 1] w (Fu w (.tuple #[.int .i64 0,.string ⟨#[]⟩,.int .i64 0,.int .i64 3]))):=hn.none hm
 clear hn hm hs1 FX
 go_enter Tryz.func154,Tryz.ntmps154
 go_wp2_with fail
 refine(Ka _).mono ?_
 rintro e w1 ⟨rfl,l1⟩
 have HB1:=hid l1
 clear l1
 obtain⟨Z,hZ⟩: ∃Z,tx (fun _=>false)=Z:=⟨_,rfl⟩
 have HZ:=hid hZ
 rw[hZ]
 clear hZ
 go_wp2_with fail
 go_loopg [6,8,9] 1 (fun gk s6 s8 s9 wr=>s6= .int .i64 1/\s9= .bool true/\wr=w1)
 case atStart=>exact⟨rfl,rfl,rfl⟩
 case round=>
  obtain⟨rfl,rfl,rfl⟩:=hrel
  go_wp2_with fail
  refine(HN.out _).mono ?_
  rintro e w2 ⟨rfl,l2⟩
  have H2:=hid (on HB1.out l2)
  clear l2
  go_wp2_with fail
  go_ret3
  refine⟨?_,H2.out⟩
  rw[<-HZ.out];rfl
theorem Ja {s:ByteArray} (hs:s.size<=900) (h0:0<s.size) (w:World):Calls Tryz.prog 154 #[.string s] w (NK w (parse s.data.toList)):=by
 have e0:s.data.toList=s[0]::s.data.toList.drop 1:=by have:=Kit.Ay s 0 h0;rwa[List.drop_zero]at this
 have hl:(s.data.toList.drop 1).length=s.size-1:=by rw[List.length_drop,<-Lib.size_eq]
 by_cases FX:s[0]=91
 ·by_cases h1:1<s.size
  ·have e1:s.data.toList.drop 1=s[1]::s.data.toList.drop 2:=Kit.Ay s 1 h1
   have hl2:(s.data.toList.drop 2).length=s.size-2:=by rw[List.length_drop,<-Lib.size_eq]
   by_cases Jh:s[1]=94
   ·have h:=Vv hs h0 FX h1 Jh w
    have e2:s.data.toList=91::94::s.data.toList.drop 2:=by rw[<-FX,<-Jh,<-e1,<-e0]
    have hp:=fI (s.data.toList.drop 2)
    rw[hl2,<-e2]at hp
    rw[hp];exact h
   have h:=Vw hs h0 FX h1 Jh w
   have e2:s.data.toList=91::s.data.toList.drop 1:=by rw[<-FX,<-e0]
   have hp:=fJ (s.data.toList.drop 1) (by rw[e1];exact Jh)
   rw[hl,<-e2]at hp
   rw[hp];exact h
  have h2:s.data.toList.drop 1= []:=Kit.Ci s 1 h1
  have h:=TZ h0 (by omega) FX w
  rw[e0,h2,FX]
  exact h
 have h:=Vx h0 FX w
 rw[e0]
 unfold parse
 simp only[if_neg FX]
 exact h
end FD
end Go.Proofs.YtfgegjinhkgpbaaGreatDoor
