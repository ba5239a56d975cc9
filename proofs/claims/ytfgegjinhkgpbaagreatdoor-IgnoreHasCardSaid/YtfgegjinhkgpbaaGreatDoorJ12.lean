/-
  Texts joined, in build order, each with its own comment and its own conditions: W15RefAlt, W16GoOn, W16Clear, W16Iter.
-/
import Derived.Test.YtfgegjinhkgpbaaGreatDoorJ11
import Derived.Test.YtfgegjinhkgpbaaGreatDoorTake
import Derived.Test.YtfgegjinhkgpbaaGreatDoorJ09
namespace Go.Proofs.YtfgegjinhkgpbaaGreatDoor
set_option maxHeartbeats 4000000
set_option maxRecDepth 100000
open Go.RowKit
open Lib (hid)
namespace EH
open Strs Al Bv
open Cj (Piece size sizes)
open W14 (Raw Ea Ak Co DF FT Ad Be AV AU Aq AO)
open Kit (below_draws on)
theorem Er {a b c:Nat} (h:a+b=c) (hc:c<=100000):wrap64 ((a:Int)+(b:Int))=(c:Int):=by unfold wrap64;omega
theorem jL {a c:Nat} (h:a+2=c) (hc:c<=100000):wrap64 ((a:Int)+2)=(c:Int):=by unfold wrap64;omega
theorem wrap_one {a c:Nat} (h:a+1=c) (hc:c<=9223372036854775807):wrap64 ((a:Int)+1)=(c:Int):=by unfold wrap64;omega
theorem ZT {w0:World} {A:Option Addr} {c:Nat} {Ag:List Raw} {ks:List Piece} (K0:W14.Kids w0 A c Ag ks) {i:Nat} (hi:i<ks.length) {p:Piece} (hp:ks[i]=p): ∃g1 o1 rk,A=some ⟨g1,o1,none⟩/\g1<w0.heap.size/\Be w0 rk p/\ ∀j,j<5->w0.cell? ⟨g1,o1+i*5+j,none⟩=(Co rk)[j]? :=by
 obtain⟨g1,o1,hA,C1⟩:=K0.at_ (Nat.lt_of_le_of_lt (Nat.zero_le _) hi)
 obtain⟨hr1,q1⟩:=K0.kid hi
 refine⟨g1,o1,Ag[i],hA,K0.2.1 _ hA (Nat.lt_of_le_of_lt (Nat.zero_le _) hr1),?_,C1 i hr1⟩
 rw[<-hp];exact q1
theorem GI {w0 w:World} {g1 o:Nat} {rk:Raw} (h: ∀j,j<5->w0.cell? ⟨g1,o+j,none⟩=(Co rk)[j]?) (hg:g1<w0.heap.size) (hl:Below w0.heap.size w0 w): ∀j,j<5->w.cell? ⟨g1,o+j,none⟩=(Co rk)[j]? :=fun j hj=>(AO (hl.block g1 hg)).trans (h j hj)
set_option maxHeartbeats 8000000 in
theorem oI {ks:List Piece} (hg:Bv.Good (.mk 8 no ks 0 0)) (qK: ∀p,p∈ks->Bv.Good p) (IH: ∀i (hi:i<ks.length),sD ks[i]) (hs: ∀q,q∈ks-> ∀a,(steps q a).length=size q) {w:World} {r:Raw} {a n E Sz:Nat} (h:Be w r (.mk 8 no ks 0 0)) (hn:ks.length=n+1) (hS:size (.mk 8 no ks 0 0)=Sz) (hSz:sizes ks+2*n=Sz) (hz:Sz<=4000) (hE:a+Sz=E) (ha:E<=8000):
    Calls Tryz.prog 79 #[.agg (Ak r),.int .i64 a] w (Sy w (alts ks a E)):=by
 have Xa:=hid (fun w r hl=>KU hg w r hl)
 rw[hS]at Xa
 have dP:=hid h
 obtain⟨A,c,Ag,rfl,k1⟩:=h.parts
 have HI:=hid IH
 have HS:=hid hs
 have qL:=hid qK
 have HR:=hid k1.room
 have K0:=hid k1
 have HN:=hid hn
 have oJ:=hid hSz
 have J3:=hid (show True/\Sz<=4000/\a+Sz=E/\E<=8000 from⟨trivial,hz,hE,ha⟩)
 have qM:=Er hE (by clear hSz;omega)
 obtain⟨nk,hnk⟩: ∃nk,ks.length=nk:=⟨_,rfl⟩
 have uI:=hid hnk
 rw[hnk]at HR dP ⊢
 have uJ:=hid (show nk=n+1 by omega)
 clear h k1 IH hs qK hg hS hSz hz hE ha hn hnk
 go_enter Tryz.func79,Tryz.ntmps79
 go_wp2_with (first
  |(refine AV (r:=⟨8,no,A,nk,c,0,0⟩) rfl (.tmp 0) rfl rfl ?_;intro w1 b1 e1 p1 l1 z1;have a0:=p1.c0;have P1:=hid p1;have L1:=hid l1;clear e1 p1 l1 z1;simp only at a0)
  |(refine AU (r:=⟨8,no,A,nk,c,0,0⟩) rfl (.tmp 2) rfl rfl P1.out ?_))
 refine(Xa.out _ _ (dP.out.below L1.out)).mono ?_
 rintro e w2 ⟨rfl,l2⟩
 have S0:=hid ((St.start (w0:=w) P1.out L1.out).below l2)
 clear l2 a0
 go_wp2_with fail
 simp only[qM]
 clear qM
 go_loopg [5,8] nk (fun gk s5 s8 wr=> ∃(i:Nat) (vo:Value) (Li:List AL),s5=vo/\s8= .int .i64 i/\Hid (i+gk=nk)/\Hid ((i<=n->Li=pre (ks.take i) a E)/\(i=nk->Li=alts ks a E))/\Hid (St w wr b1 ⟨8,no,A,nk,c,0,0⟩ vo Li))
 case atStart=>exact⟨0,.slice none 0 0,[],rfl,rfl,by unfold Hid;omega,⟨fun _=>by simp only[List.take_zero,pre],fun q=>by have:=uJ.out;omega⟩,S0⟩
 case round=>
  obtain⟨i,vo,Li,rfl,rfl,hig,zY,SS⟩:=hrel
  have a2:=SS.out.box.c2
  simp only at a2
  have hn1:=HR.out.1
  have hn2:=HR.out.2
  by_cases hi:i<nk
  ·have ti:(i:Int)<(nk:Int):=by omega
   have hik:i<ks.length:=by rw[uI.out];exact hi
   obtain⟨p,hp⟩: ∃p,ks[i]'hik=p:=⟨_,rfl⟩
   have hpm:p∈ks:=by rw[<-hp];exact List.getElem_mem hik
   obtain⟨g1,o1,rk,rfl,hg1,q0,C0⟩:=ZT K0.out hik hp
   have mP:=hid hg1
   have Q0:=hid q0
   have C0:=hid C0
   have hin:i<=n:=by have:=uJ.out;omega
   have RI:=zY.out.1 hin
   obtain⟨s,hsz⟩: ∃s,size p=s:=⟨_,rfl⟩
   obtain⟨T,hT⟩: ∃T,ks.take i=T:=⟨_,rfl⟩
   have sG: ∀q,q∈T->q∈ks:=fun q hq=>by rw[<-hT]at hq;exact List.mem_of_mem_take hq
   have htk:ks.take (i+1)=T++ [p]:=by rw[List.take_succ_eq_append_getElem hik,hT,hp]
   obtain⟨N,hN⟩: ∃N,Cu T=N:=⟨_,rfl⟩
   have hlen:Li.length=N:=by rw[RI,hT,Hz HS.out E _ _ sG,hN]
   obtain⟨hh,gH⟩: ∃hh,a+N=hh:=⟨_,rfl⟩
   have hbd:N+s+2*(nk-(i+1))<=Sz:=by
    have h1:=Cz ks (i+1)
    rw[htk,Cj.DN]at h1
    have h2:sizes [p]=s:=by simp only[sizes,Nat.add_zero];exact hsz
    have h3:T.length=i:=by rw[<-hT,List.length_take];omega
    have h4:=oJ.out
    have h5:=uJ.out
    rw[h2]at h1
    unfold Cu at hN
    rw[h3]at hN
    generalize sizes T=q1 at*
    generalize sizes ks=q2 at*
    clear RI hlen htk sG hT
    omega
   have HB:=hid hbd
   have Pj:=hid hlen
   have xq:Hid (∀a,(steps p a).length=s):=by unfold Hid;rw[<-hsz];exact HS.out p hpm
   have uu:=hid (fun w r hl=>KU (qL.out p hpm) w r hl)
   rw[hsz]at uu
   have qN:Hid (∀(w:World) (a':Nat),Be w rk p->a'+s<=8000->Calls Tryz.prog 79 #[.agg (Ak rk),.int .i64 a'] w (Sy w (steps p a'))):=by
    intro w a' h1 h2
    have h3:=HI.out i hik w rk a'
    rw[hp,hsz]at h3
    exact h3 h1 (by have:=HB.out;have:=J3.out.2.1;clear htk RI hT;omega) h2
   have ZU:Hid (Li=pre T a E):=by unfold Hid;rw[RI,hT]
   have qO:=hid htk
   have zZ:=hid hN
   have xu:=hid hsz
   have uK:=hid gH
   have hw1:=Er gH (by have:=HB.out;have:=J3.out;clear htk RI hT;omega)
   obtain⟨j,hj⟩: ∃j,i+1=j:=⟨_,rfl⟩
   have Jf:=wrap_one hj (by have:=HR.out;clear htk RI hT;omega)
   have HJ:=hid hj
   have za:Hid ((i:Int)+1=(j:Int)):=by unfold Hid;rw[<-hj];rfl
   have wO:=hid hik
   obtain⟨Ao,co,rfl,LX,XZ⟩:=SS.out.form
   rw[hlen]at LX SS ⊢
   have E0:=hid (GI C0.out mP.out SS.out.low)
   clear RI hT sG htk hN hlen hbd hsz hp hpm hg1 q0 hin gH hj hi hik
   go_wp2_with (first|(refine Aq rfl (.tmp 92) rfl rfl (r:=rk) E0.out ?_))
   refine(uu.out _ _ (Q0.out.below SS.out.low)).mono ?_
   rintro e w3 ⟨rfl,l3⟩
   have S3:=hid (SS.out.below l3)
   clear l3 a2 hw1
   have a2:=S3.out.box.c2
   simp only at a2
   by_cases hlast:j<nk
   ·have tj:(j:Int)<(nk:Int):=by clear Jf;omega
    have tj2:(i:Int)+1<(nk:Int):=by have:=HJ.out;clear Jf;omega
    obtain⟨x1,hx1⟩: ∃x1,hh+1=x1:=⟨_,rfl⟩
    obtain⟨y0,hy0⟩: ∃y0,hh+s=y0:=⟨_,rfl⟩
    obtain⟨y1,hy1⟩: ∃y1,y0+2=y1:=⟨_,rfl⟩
    have gG:Hid (hh+s+2<=8000):=by unfold Hid;have:=HB.out;have:=J3.out;have:=uK.out;have:=HJ.out;clear ti tj Jf;omega
    have xw:=hid (show x1=hh+1/\y1=hh+s+2 from⟨hx1.symm,by clear Jf;omega⟩)
    have YZ:=hid (show x1<=8000/\y0<=8000/\y1<=8000 from by have:=gG.out;clear Jf;exact⟨by omega,by omega,by omega⟩)
    have hwx:=wrap_one hx1 (Nat.le_trans YZ.out.1 (by decide))
    have qP:=Er hy0 (Nat.le_trans YZ.out.2.1 (by decide))
    have hwz:=jL hy1 (Nat.le_trans YZ.out.2.2 (by decide))
    have xz:=hid (qN.out)
    have e3:=hid (GI C0.out mP.out S3.out.low)
    have IW:Hid (Li.length+ [(⟨6,⟨#[]⟩,(x1:Nat),(y1:Nat)⟩:AL)].length<=1000000):=by unfold Hid;rw[Pj.out];simp only[List.length_cons,List.length_nil];have:=HB.out;have:=J3.out;clear hwx qP hwz Jf;omega
    clear hx1 hy0 hy1 hlast
    go_wp2_with (first
     |(refine C_ (r:=⟨6,⟨#[]⟩,(x1:Nat),(y1:Nat)⟩) rfl (.tmp 108) rfl rfl ?_;intro w4 b4 e4 p4 l4 z4 o4;have R4:=hid p4;have S4:=hid (S3.out.below l4);clear e4 p4 l4 z4 o4)
     |(refine CU rfl (.tmp 101) (.tmp 109) rfl rfl rfl S4.out.own R4.out IW.out S4.out.low.size ?_;intro v5 w5 o5 p5;have S5:=hid (S4.out.put o5 p5);clear o5 p5;clear a2;have a2:=S5.out.box.c2;simp only at a2;have e5:=hid (GI C0.out mP.out S5.out.low))
     |(refine Aq rfl (.tmp 115) rfl rfl (r:=rk) e5.out ?_))
    refine(xz.out _ x1 (Q0.out.below S5.out.low) (by have:=gG.out;have:=xw.out;clear hwx qP hwz Jf;omega)).mono ?_
    rintro e w6 ⟨v6,rfl,o6,l6⟩
    have S6:=hid (S5.out.below l6)
    have R6:=hid (Al.Bw BJ rfl o6)
    have HL2:Hid ((Li++ [(⟨6,⟨#[]⟩,(x1:Nat),(y1:Nat)⟩:AL)]).length+(steps p x1).length<=1000000):=by unfold Hid;rw[List.length_append,Pj.out,xq.out];simp only[List.length_cons,List.length_nil];have:=HB.out;have:=J3.out;clear hwx qP hwz Jf;omega
    have S_:Hid ((Li++ [(⟨6,⟨#[]⟩,(x1:Nat),(y1:Nat)⟩:AL)]++steps p x1).length+ [(⟨8,⟨#[]⟩,(E:Nat),0⟩:AL)].length<=1000000):=by unfold Hid;rw[List.length_append,List.length_append,Pj.out,xq.out];simp only[List.length_cons,List.length_nil];have:=HB.out;have:=J3.out;clear hwx qP hwz Jf;omega
    clear o6 l6 a2 hwx qP hwz
    go_wp2_with (first
     |(refine CU rfl (.tmp 111) (.tmp 119) rfl rfl rfl S6.out.own R6.out HL2.out S6.out.low.size ?_;intro v7 w7 o7 p7;have S7:=hid (S6.out.put o7 p7);clear o7 p7)
     |(refine C_ (r:=⟨8,⟨#[]⟩,(E:Nat),0⟩) rfl (.tmp 123) rfl rfl ?_;intro w8 b8 e8 p8 l8 z8 o8;have R8:=hid p8;have S8:=hid (S7.out.below l8);clear e8 p8 l8 z8 o8)
     |(refine CU rfl (.tmp 121) (.tmp 124) rfl rfl rfl S8.out.own R8.out S_.out S8.out.low.size ?_;intro v9 w9 o9 p9;have S9:=hid (S8.out.put o9 p9);clear o9 p9))
    have sH:Hid ((j<=n->Li++ [(⟨6,⟨#[]⟩,(x1:Nat),(y1:Nat)⟩:AL)]++steps p x1++ [(⟨8,⟨#[]⟩,(E:Nat),0⟩:AL)]=pre (ks.take j) a E)/\(j=nk->Li++ [(⟨6,⟨#[]⟩,(x1:Nat),(y1:Nat)⟩:AL)]++steps p x1++ [(⟨8,⟨#[]⟩,(E:Nat),0⟩:AL)]=alts ks a E)):=by
     refine⟨fun _=> ?_,fun q=>by clear Jf;omega⟩
     rw[<-HJ.out,qO.out,JJ,zZ.out,uK.out,ZU.out,xw.out.1,xw.out.2]
     simp only[pre,xu.out,List.append_assoc,List.cons_append,List.nil_append]
     rfl
    cases gk with
    |zero=>exact absurd hig.out (by have:=wO.out;have:=uI.out;clear Jf;omega)
    |succ g=>
     go_wp2_with fail
     go_roundg g
     case measure=>omega
     case rel=>exact⟨j,v9,_,rfl,by first|rfl|exact congrArg (Value.int .i64) Jf|exact congrArg (Value.int .i64) za.out,by have:=hig.out;have:=HJ.out;clear Jf;unfold Hid;omega,sH,S9⟩
   have tj: ¬(j:Int)<(nk:Int):=by clear Jf;omega
   have tj2: ¬(i:Int)+1<(nk:Int):=by have:=HJ.out;clear Jf;omega
   have hjn:j=nk:=by have:=wO.out;have:=uI.out;have:=HJ.out;clear tj Jf;omega
   have x8:=hid hjn
   have HHB:Hid (hh+s<=8000):=by unfold Hid;have:=HB.out;have:=J3.out;have:=uK.out;clear Jf ti tj;omega
   have e3:=hid (GI C0.out mP.out S3.out.low)
   clear hjn hlast
   go_wp2_with (first
    |(refine Aq rfl (.tmp 130) rfl rfl (r:=rk) e3.out ?_))
   refine(qN.out _ hh (Q0.out.below S3.out.low) HHB.out).mono ?_
   rintro e w6 ⟨v6,rfl,o6,l6⟩
   have S6:=hid (S3.out.below l6)
   have R6:=hid (Al.Bw BJ rfl o6)
   have HL2:Hid (Li.length+(steps p hh).length<=1000000):=by unfold Hid;rw[Pj.out,xq.out];have:=HB.out;have:=J3.out;clear Jf;omega
   clear o6 l6 a2
   go_wp2_with (first
    |(refine CU rfl (.tmp 126) (.tmp 133) rfl rfl rfl S6.out.own R6.out HL2.out S6.out.low.size ?_;intro v7 w7 o7 p7;have S7:=hid (S6.out.put o7 p7);clear o7 p7))
   have sH:Hid ((j<=n->Li++steps p hh=pre (ks.take j) a E)/\(j=nk->Li++steps p hh=alts ks a E)):=by
    refine⟨fun q=>by have:=uJ.out;have:=x8.out;clear Jf;omega,fun _=> ?_⟩
    have h1:=Qr p (ks.take i) a E
    have h2:ks=ks.take i++ [p]:=by
     have h3:ks.take (i+1)=ks:=List.take_of_length_le (by have:=x8.out;have:=HJ.out;have:=uI.out;clear Jf;omega)
     have h4:=qO.out
     rw[h3]at h4
     have h5:ks.take i=(ks.take (i+1)).take i:=by rw[List.take_take];congr 1;omega
     have h6:T.length=i:=by
      have:=congrArg List.length h4
      rw[List.length_append]at this
      simp only[List.length_cons,List.length_nil]at this
      have:=x8.out;have:=HJ.out;have:=uI.out;clear Jf;omega
     rw[h5,h3,h4,List.take_append_of_le_length (by omega),List.take_of_length_le (by omega)]
    rw[<-h2]at h1
    have h7:ks.take i=T:=by
     have h8:=qO.out
     have h9:(ks.take (i+1)).take i=ks.take i:=by rw[List.take_take];congr 1;omega
     rw[h8]at h9
     have h6:T.length=i:=by
      have:=congrArg List.length h8
      rw[List.length_append,List.length_take]at this
      simp only[List.length_cons,List.length_nil]at this
      have:=wO.out;clear Jf;omega
     rw[<-h9,List.take_append_of_le_length (by omega),List.take_of_length_le (by omega)]
    rw[h1,h7,zZ.out,uK.out,ZU.out]
   cases gk with
   |zero=>exact absurd hig.out (by have:=wO.out;have:=uI.out;clear Jf;omega)
   |succ g=>
    go_wp2_with fail
    go_roundg g
    case measure=>omega
    case rel=>exact⟨j,v7,_,rfl,by first|rfl|exact congrArg (Value.int .i64) Jf|exact congrArg (Value.int .i64) za.out,by have:=hig.out;have:=HJ.out;clear Jf;unfold Hid;omega,sH,S7⟩
  have ti: ¬(i:Int)<(nk:Int):=by omega
  have hie:i=nk:=by have:=hig.out;omega
  have hL:=zY.out.2 hie
  subst hL
  clear hie hi
  go_wp2_with fail
  go_ret
  exact SS.out.gets
end EH
namespace Fg
open Strs Al Range
open Bv (AL Ca ae)
open BR (Text steps put puts go Eo IL ins)
open EH (CZ D8 BJ Qc CS aW Qd MX Qb DR ED CE)
open W14 (AZ Bi BL AO AY)
open BU (Beside)
open Kit (below_draws on)
theorem Gy (a b:Int) (w:World):(Instr.build 132 #[(0,.int .i64 a),(1,.int .i64 b)]).run Tryz.prog w= .ok (.agg #[.int .i64 a,.int .i64 b]) w:=by kernel_rfl
section
variable {o:Oper} {a:Act} {w:World} {Q:Exit->Act->World->Prop} {K:Act->World->Prop}
theorem VO (ho:o.op= .alloc 106)
    (h: ∀w' b,w.heap.size=b->CS w' b aW->Below w.heap.size w w'->w'.heap.size=w.heap.size+1->K (a.put o.dst (.pointer (some ⟨b,0,none⟩))) w'):o.wp Tryz.prog a w K Q:=by
 unfold Oper.wp execOp
 simp only[ho,Instr.alloc,newVar,newRow,Qd,Sem.run_bind,Sem.run_pure,Result.andThen_ok]
 exact h _ _ rfl (heap_alloc_new w _) (AZ w _) (World.size_alloc w _)
theorem VP (x y:Operand) (ho:o.op= .store 106 x y) {b:Nat} {r old:AL} (hx:a.eval x= .pointer (some ⟨b,0,none⟩)) (hy:a.eval y= .agg (D8 r)) (hr:CS w b old)
    (h: ∀w',CS w' b r->Beside b w w'->w'.heap.size=w.heap.size->K (a.put o.dst undef) w'):o.wp Tryz.prog a w K Q:=
 wp_store_row 106 x y ho b (D8 r) hx hy 106 (D8 old) hr (MX r) rfl (Qb r)
  (h _ (setRow_heap w b _ _ _ _ hr) ⟨rfl,rfl,rfl,by rw[setRow_size];exact Nat.le_refl _,fun k _ e=>setRow_other w b k _ e⟩ (setRow_size _ _ _))
end
theorem LY {w w':World} {b4 r gm gl:Nat} {a4 ar am al:Nat} {v1 v2 v3:Value} {x:AL} (h:w.cell? ⟨b4,a4,none⟩=some v1/\w.cell? ⟨r,ar,none⟩=some v2/\w.cell? ⟨gm,am,none⟩=some v3/\(∀j,j<4->w.cell? ⟨gl,al+j,none⟩=(CZ x)[j]?)) (hb:Below w.heap.size w w'):
    w'.cell? ⟨b4,a4,none⟩=some v1/\w'.cell? ⟨r,ar,none⟩=some v2/\w'.cell? ⟨gm,am,none⟩=some v3/\(∀j,j<4->w'.cell? ⟨gl,al+j,none⟩=(CZ x)[j]?):=by
 obtain⟨h1,h2,h3,h4⟩:=h
 refine⟨(hb.cell (World.block_lt_of_cell? w _ h1)).trans h1,(hb.cell (World.block_lt_of_cell? w _ h2)).trans h2,(hb.cell (World.block_lt_of_cell? w _ h3)).trans h3,fun j hj=> ?_⟩
 have h5:=h4 j hj
 have h6: ∃u,(CZ x)[j]? =some u:=⟨_,List.getElem?_eq_getElem (by rw[BJ];exact hj)⟩
 obtain⟨u,hu⟩:=h6
 rw[hu]at h5 ⊢
 exact(hb.cell (World.block_lt_of_cell? w _ h5)).trans h5
def GJ (w:World) (b:Nat) (lv:Value) (s:ByteArray):Prop:=w.heap[b]? =some (.cells #[lv,.string s] 124 (0,0))
section
variable {w w':World} {b:Nat} {lv:Value} {s:ByteArray}
theorem GJ.lt (h:GJ w b lv s):b<w.heap.size:=(Array.getElem?_eq_some_iff.1 h).1
theorem GJ.same (h:GJ w b lv s) (hk:w'.heap[b]? =w.heap[b]?):GJ w' b lv s:=hk.trans h
theorem GJ.below (h:GJ w b lv s) (k:Below w.heap.size w w'):GJ w' b lv s:=h.same (k.block b h.lt)
theorem GJ.c0 (h:GJ w b lv s):w.cell? ⟨b,0,none⟩=some lv:=cell_of_row w b 0 _ _ _ h
theorem GJ.c1 (h:GJ w b lv s):w.cell? ⟨b,1,none⟩=some (.string s):=cell_of_row w b 1 _ _ _ h
end
section
variable {ops:Array Oper} {rest:List Oper} {o:Oper} {a:Act} {w:World} {Q:Exit->Act->World->Prop}
theorem oK (hgd:o.guard=none) (x:Operand) (ho:o.op= .box 124 x) {lv:Value} {s:ByteArray} (hx:a.eval x= .agg #[lv,.string s])
    (h: ∀w' b,w.heap.size=b->GJ w' b lv s->Below w.heap.size w w'->w'.heap.size=w.heap.size+1->wpList Tryz.prog ops Q rest (a.put o.dst (.pointer (some ⟨b,0,none⟩))) w'):wpList Tryz.prog ops Q (o::rest) a w:=
 wpList_plain hgd fun _ hK=>by
  unfold Oper.wp execOp
  simp only[ho,hx,Instr.box,newVar,newRow,Sem.run_bind,Sem.run_pure]
  exact hK _ _ (h _ _ rfl (heap_alloc_new w _) (AZ w _) (World.size_alloc w _))
end
def Fit (n:Nat) (M:List BR.Mark):Prop:=(steps M).Nodup/\ ∀x∈M,x.1<n
theorem Fit.len {n:Nat} {M:List BR.Mark} (h:Fit n M):M.length<=n:=by
 have:=BR.Mk n h.1 (fun x hx=>by
  obtain⟨y,hy,rfl⟩:=List.mem_map.1 hx
  exact h.2 y hy)
 simpa [steps]using this
theorem Fit.put {n:Nat} {M:List BR.Mark} {m:BR.Mark} (h:Fit n M) (hm:m.1<n):Fit n (put M m):=
 ⟨BR.Nh h.1,fun x hx=>by
  rcases BR.put_mem hx with h1|rfl
  ·exact h.2 x h1
  exact hm⟩
theorem JQ {L:List AL} {n q b f i:Nat} {M:List BR.Mark} {m:BR.Mark} (h:M[i]? =some m):go L n q b (f+1) i M=go L n q b f (i+1) (puts M (IL (ins L m.1) n q) b):=by
 rw[go,h]
theorem oL {L:List AL} {n q b f i:Nat} {M:List BR.Mark} (h:M.length<=i):go L n q b f i M=M:=by
 cases f with
 |zero=>rfl
 |succ f=>rw[go,List.getElem?_eq_none h]
set_option maxHeartbeats 16000000 in
theorem J4 {base:Nat} {w:World} {r g:Nat} {v lv:Value} {M:List BR.Mark} {L:List AL} (hL:Qc base w lv L) (hR:Ca L=true) (hn:L.length<=900000) (h:Gx base w r v g L.length M) (hK:Fit L.length M) (s:ByteArray) (m:BR.Mark) (hm:m.1<L.length) (q:Nat) (hq:q<=4611686018427387904):
    Calls Tryz.prog 114 #[.agg #[lv,.string s],.pointer (some ⟨r,0,none⟩),.agg (FM m),.int .i64 q] w fun e w'=>e= .returned (.tuple #[])/\ ∃v',Gx base w' r v' g L.length (Eo L s.size q M m)/\EM r g v v' w w':=by
 obtain⟨n,hnl⟩: ∃n,L.length=n:=⟨_,rfl⟩
 have HXO:=hid (fun(i:Nat) (hi:i<L.length)=>BR.Qt hR hi)
 obtain⟨gl,ol,cl,rfl,hgl,hlc,hlm⟩: ∃gl ol cl,lv= .slice (some ⟨gl,ol,none⟩) n cl/\gl<base/\n<=cl/\cl<=maxLen:=by
  obtain⟨A,cl,rfl,h1,h2⟩:=hL.form
  obtain⟨b,o,-,rfl,hb,-⟩:=hL.Gq BJ (by decide) (k:=0) (by omega)
  exact⟨b,o,cl,by rw[hnl],hb,by omega,h2⟩
 have HLC:=hid (fun(w':World) (hb:Below base w w') (k:Nat) (hk:k<n)=>by
  obtain⟨b,o,hl,e,-,hc⟩:=(hL.below hb).Gq BJ (by decide) (k:=k) hk
  cases e
  exact(⟨hl,hc⟩: ∃hl:k<L.length,∀j,j<4->w'.cell? ⟨gl,ol+k*4+j,none⟩=(CZ L[k])[j]?))
 have GX:Hid (L.length=n):=hnl
 rw[hnl]at h hK hm ⊢
 have H:=hid h
 have HK:=hid hK
 have HM:=hid hm
 have Gl:Hid (n<1000000):=by unfold Hid;omega
 obtain⟨A0,c0',rfl,hM1,hM2⟩:=h.form
 unfold maxLen at hM2 hlm
 have mQ:=hid (show gl<base/\n<=cl/\cl<=9223372036854775807 from⟨hgl,hlc,hlm⟩)
 have ha0:=h.c0
 have az:=hid (show M.length<=c0'/\c0'<=9223372036854775807 from⟨hM1,hM2⟩)
 obtain⟨R,hRR⟩: ∃R,Eo L s.size q M m=R:=⟨_,rfl⟩
 have HR:Hid (go L s.size q m.2 n M.length (put M m)=R):=by unfold Hid;rw[<-hRR,Eo,GX.out]
 rw[hRR]
 clear hL hR hn h hK hm hnl hgl hlc hlm hRR
 go_enter Tryz.func114,Tryz.ntmps114
 go_wp2_with (first
  |(refine oK (lv:= .slice (some ⟨gl,ol,none⟩) n cl) (s:=s) rfl (.tmp 0) rfl rfl ?_;intro w1 b4 e1 p1 l1 z1;have Q4:=hid p1;have L1:=hid l1;have E4:=hid e1;clear e1 p1 l1 z1)
  |(refine Qv (r:=m) rfl (.tmp 2) rfl rfl ?_;intro w2 b6 e1 p1 l1 z1;have wP:=hid p1;have L2:=hid (on L1.out l1);have x9:=hid (Q4.out.below l1);have E6:Hid (w.heap.size<=b6):=(by unfold Hid;have:=L1.out.size;omega);have H2:=hid (H.out.below L2.out);have a0:=H2.out.c0;clear e1 p1 l1 z1 ha0)
  |(refine dI (r:=m) rfl (.tmp 6) rfl rfl wP.out ?_))
 have YZ:Hid (∀v1 w',EM r g (.slice A0 M.length c0') v1 w2 w'-> ¬RF r g v1 b4/\ ¬RF r g v1 b6):=fun v1 w' hg=>by
  have h1:=H.out.lt
  have h2:=H.out.bits.lt
  have h3:=x9.out.lt
  have h4:=wP.out.lt
  have h5:=E4.out
  have h6:=E6.out
  refine⟨?_,?_⟩
  ·rintro(e|e|e)
   ·omega
   ·omega
   rcases hg.own b4 e with e2|e2
   ·have:=(H.out.own.lt b4 e2).2;omega
   omega
  rintro(e|e|e)
  ·omega
  ·omega
  rcases hg.own b6 e with e2|e2
  ·have:=(H.out.own.lt b6 e2).2;omega
  omega
 refine(KR H2.out m HM.out (by have:=HK.out.len;have:=Gl.out;omega)).mono ?_
 rintro e w3 ⟨rfl,v3,r3,g3⟩
 have R3:=hid r3
 have F3:=hid (HK.out.put (m:=m) HM.out)
 have B4:=hid (x9.out.same (g3.keeps x9.out.lt (YZ.out _ _ (EM.refl _ _ _ _)).1))
 have B6:=hid (wP.out.same (g3.keeps wP.out.lt (YZ.out _ _ (EM.refl _ _ _ _)).2))
 have G3:=hid g3
 clear r3 g3 a0 hM1 hM2
 go_wp2_with fail
 go_loopg [8] n (fun gk s8 wr=> ∃(i:Nat) (v1:Value) (M1:List BR.Mark),s8= .int .i64 i/\Hid (Gx base wr r v1 g n M1)/\Hid (EM r g (.slice A0 M.length c0') v1 w2 wr)/\Hid (Fit n M1)/\Hid (GJ wr b4 (.slice (some ⟨gl,ol,none⟩) n cl) s)/\Hid (Gb wr b6 m)/\Hid (go L s.size q m.2 gk i M1=R)/\Hid (n<=i+gk))
 case atStart=>exact⟨M.length,v3,put M m,rfl,R3,G3,F3,B4,B6,HR,by unfold Hid;omega⟩
 case round=>
  clear B4 B6
  obtain⟨i,v1,M1,rfl,R1,G1,J5,B4,B6,qQ,Ya⟩:=hrel
  by_cases hi:i<M1.length
  ·obtain⟨gm,c1,rfl,-,-,hk1,hk2⟩:=BL R1.out.own (by omega)
   obtain⟨⟨j0,b0⟩,hx0⟩: ∃x,M1[i]=x:=⟨_,rfl⟩
   have hj0:j0<n:=by have:=J5.out.2 M1[i] (List.getElem_mem hi);rw[hx0]at this;exact this
   obtain⟨hjl,hcl⟩:=HLC.out wr ((L2.out.mono (Nat.le_trans H.out.low (Nat.le_of_lt H.out.lt))).trans (G1.out.below H2.out)) j0 hj0
   have hii:ins L j0=L[j0]:=by unfold ins;rw[List.getD_eq_getElem?_getD,List.getElem?_eq_getElem hjl];rfl
   rw[<-hii]at hcl
   have hmc:wr.cell? ⟨gm,i*2,none⟩=some (.int .i64 j0):=by
    rw[R1.out.own.cellAt _ (by omega)]
    have:=GZ Fh M1 i hi 0 (by decide)
    rw[Nat.add_zero]at this
    rw[this,hx0];rfl
   have sJ:Hid (M1[i]? =some (j0,b0)):=by unfold Hid;rw[List.getElem?_eq_getElem hi,hx0]
   obtain⟨⟨k,t,X,Y⟩,hx1⟩: ∃x,ins L j0=x:=⟨_,rfl⟩
   have HX:=hid hx1
   have dK:Hid (k≠7->0<=X/\X<n/\1<=k/\k<=8/\(k=6->0<=Y/\Y<n)):=by
    have:=HXO.out j0 (by rw[GX.out];exact hj0)
    rw[hx1,GX.out]at this
    exact fun hk=>BR.XM this hk
   rw[hx1]at hcl
   obtain⟨k1,hk⟩: ∃k1,M1.length=k1:=⟨_,rfl⟩
   have HK1:=hid hk
   have hr0:=R1.out.c0
   rw[hk]at hi hk1 hr0 R1 G1
   unfold maxLen at hk2
   have HI:=hid hi
   have hii1:(i:Int)<(k1:Int):=by omega
   have hjn:(j0:Int)<(n:Int):=by omega
   have DT:Hid (wrap64 ((i:Int)+1)=((i+1:Nat):Int)):=by unfold Hid wrap64;have:=J5.out.len;have:=Gl.out;omega
   clear hii hjl hx0 hx1 hk hi
   go_wp2_with fail
   have D1:=hid (below_draws wr 1)
   have S0:Hid ((wr.drewN 1).cell? ⟨b4,0,none⟩=some (.slice (some ⟨gl,ol,none⟩) n cl)/\(wr.drewN 1).cell? ⟨r,0,none⟩=some (.slice (some ⟨gm,0,none⟩) k1 c1)/\(wr.drewN 1).cell? ⟨gm,i*2,none⟩=some (.int .i64 j0)/\(∀j,j<4->(wr.drewN 1).cell? ⟨gl,ol+j0*4+j,none⟩=(CZ ⟨k,t,X,Y⟩)[j]?)):=LY ⟨B4.out.c0,hr0,hmc,hcl⟩ D1.out
   clear hr0 hmc hcl
   refine wp_region_held_drew (S:=fun w'=>w'.cell? ⟨b4,0,none⟩=some (.slice (some ⟨gl,ol,none⟩) n cl)/\w'.cell? ⟨r,0,none⟩=some (.slice (some ⟨gm,0,none⟩) k1 c1)/\w'.cell? ⟨gm,i*2,none⟩=some (.int .i64 j0)/\(∀j,j<4->w'.cell? ⟨gl,ol+j0*4+j,none⟩=(CZ ⟨k,t,X,Y⟩)[j]?)) (by kernel_rfl) S0.out (fun hHeld=> ?_)
   refine Take.k 0 ⟨some 27,.fieldAddr 124 (.tmp 4) 0,_,_,_,none⟩ ?_
   refine Take.k 1 ⟨some 28,.load 46 (.tmp 27),_,_,_,none⟩ ?_
   refine Take.k 2 ⟨some 29,.move (.tmp 1),_,_,_,none⟩ ?_
   refine Take.k 3 ⟨some 30,.nilCheck (.tmp 29),_,_,_,none⟩ ?_
   refine Take.k 4 ⟨some 31,.fieldAddr 129 (.tmp 30) 0,_,_,_,none⟩ ?_
   refine Take.k 5 ⟨some 32,.load 127 (.tmp 31),_,_,_,none⟩ ?_
   refine Take.k 6 ⟨some 33,.move (.tmp 8),_,_,_,none⟩ ?_
   refine Take.k 7 ⟨some 34,.indexAddr 127 (.tmp 32) (.tmp 33),_,_,_,none⟩ ?_
   refine Take.k 8 ⟨some 35,.fieldAddr 132 (.tmp 34) 0,_,_,_,none⟩ ?_
   refine Take.k 9 ⟨some 36,.load 3 (.tmp 35),_,_,_,none⟩ ?_
   refine Take.k 10 ⟨some 37,.indexAddr 46 (.tmp 28) (.tmp 36),_,_,_,none⟩ ?_
   refine Take.k 11 ⟨some 38,.load 106 (.tmp 37),_,_,_,none⟩ ?_ (hy:=Or.inl ⟨by rfl,by(intro w hSw;(try dsimp only at hSw);refine DR (.tmp 37) ?_ ?_ hSw.2.2.2<;>rfl)⟩)
   refine wpAnyH_ready (rs:= [12]) (by kernel_rfl) (by simp) ?_
   refine AllReadyH.cons (o:=⟨some 9,.alloc 106,_,_,_,none⟩) rfl (fun K hK=> ?_) AllReadyH.nil
   rw[if_pos (by rfl)]
   (refine VO rfl ?_;intro w6 b9 e6 p6 l6 z6;have P6:=hid p6;have L6:=hid l6;have zb:=hid e6;clear e6 p6 l6 z6)
   refine hK.out _ _ ?_ (fun hHeld=> ?_)
   ·exact LY S0.out L6.out
   clear hK K
   try simp only[Act.put,Take.a,Take.b,Take.c]
   refine wpAnyH_ready (rs:= [13]) (by kernel_rfl) (by simp) ?_
   refine AllReadyH.cons (o:=⟨none,.store 106 (.tmp 9) (.tmp 38),_,_,_,none⟩) rfl (fun K hK=> ?_) AllReadyH.nil
   rw[if_pos (by rfl)]
   (refine VP (r:=⟨k,t,X,Y⟩) (.tmp 9) (.tmp 38) rfl rfl rfl P6.out ?_;intro w7 p7 l7 z7;have P7:=hid p7;have L7:=hid (AY L6.out l7 zb.out);clear p7 l7 z7)
   refine hK.out _ _ ?_ (fun hHeld=> ?_)
   ·exact LY S0.out L7.out
   clear hK K
   refine wpAnyH_done (by kernel_rfl) ?_ _
   have R5:=hid (R1.out.below (on D1.out L7.out))
   have G5:=hid (G1.out.trans (EM.of (on D1.out L7.out)))
   have V7:=hid (B4.out.below (on D1.out L7.out))
   have V8:=hid (B6.out.below (on D1.out L7.out))
   have B9:=P7
   have NB9:Hid (¬RF r g (.slice (some ⟨gm,0,none⟩) k1 c1) b9):=by unfold Hid;intro e;have h1:=(R1.out.mM e).2;have h2:wr.heap.size=b9:=zb.out;omega
   clear P7 P6 R1 G1 S0 B4 B6 D1 L7 L6
   generalize w7=w5 at*
   by_cases k6:k=6
   ·subst k6
    have hx:=dK.out (by decide)
    try simp only at hx
    obtain⟨jx,rfl⟩: ∃jx:Nat,X=(jx:Int):=⟨X.toNat,by have:=hx.1;omega⟩
    have gI:Hid (jx<n):=by unfold Hid;have:=hx.2.1;omega
    obtain⟨jy,rfl⟩: ∃jy:Nat,Y=(jy:Int):=⟨Y.toNat,by have:=hx.2.2.2.2 trivial;omega⟩
    have ze:Hid (jy<n):=by unfold Hid;have:=hx.2.2.2.2 trivial;omega
    have dQ:Hid (IL (ins L j0) s.size q= [jx,jy]):=by unfold Hid;rw[HX.out];simp[IL]
    clear hx
    have c0:=B9.out.c0
    have c2:=B9.out.c2
    have c3:=B9.out.c3
    have d1:=V8.out.c1
    have e1:=V7.out.c1
    simp only at c0 c2 c3
    go_wp2_with fail
    refine(KR R5.out (jx,m.2) gI.out (by have:=J5.out.len;have:=Gl.out;omega)).mono ?_
    rintro e w6 ⟨rfl,v6,r6,g6⟩
    have R6:=hid r6
    have qR:=hid (V7.out.same (g6.keeps V7.out.lt (YZ.out _ _ G5.out).1))
    have oM:=hid (V8.out.same (g6.keeps V8.out.lt (YZ.out _ _ G5.out).2))
    have B9:Hid (CS w6 b9 ⟨6,t,jx,jy⟩):=(g6.keeps B9.out.lt NB9.out).trans B9.out
    have c3:=B9.out.c3
    have d1:=oM.out.c1
    simp only at c3
    have G6:=hid (G5.out.trans g6)
    have F6:=hid (J5.out.put (m:=(jx,m.2)) gI.out)
    clear r6 g6
    go_wp2_with fail
    refine(KR R6.out (jy,m.2) ze.out (by have:=F6.out.len;have:=Gl.out;omega)).mono ?_
    rintro e w7 ⟨rfl,v7,r7,g7⟩
    have R7:=hid r7
    have B47:=hid (qR.out.same (g7.keeps qR.out.lt (YZ.out _ _ G6.out).1))
    have B67:=hid (oM.out.same (g7.keeps oM.out.lt (YZ.out _ _ G6.out).2))
    have G7:=hid (G6.out.trans g7)
    have F7:=hid (F6.out.put (m:=(jy,m.2)) ze.out)
    clear r7 g7
    cases gk with
    |zero=>exact absurd Ya.out (by have:=J5.out.len;have:=HI.out;omega)
    |succ gk=>
     go_wp2_with fail
     go_roundg gk
     case measure=>omega
     case rel=>
      refine⟨i+1,_,_,by first|rfl|exact congrArg (Value.int .i64) DT.out,R7,G7,F7,B47,B67,?_,by have:=Ya.out;unfold Hid;omega⟩
      unfold Hid
      rw[<-qQ.out,JQ sJ.out,dQ.out]
      rfl
   by_cases k8:k=8
   ·subst k8
    have hx:=dK.out (by decide)
    try simp only at hx
    obtain⟨jx,rfl⟩: ∃jx:Nat,X=(jx:Int):=⟨X.toNat,by have:=hx.1;omega⟩
    have gI:Hid (jx<n):=by unfold Hid;have:=hx.2.1;omega
    have dQ:Hid (IL (ins L j0) s.size q= [jx]):=by unfold Hid;rw[HX.out];simp[IL]
    clear hx
    have c0:=B9.out.c0
    have c2:=B9.out.c2
    have c3:=B9.out.c3
    have d1:=V8.out.c1
    have e1:=V7.out.c1
    simp only at c0 c2 c3
    go_wp2_with fail
    refine(KR R5.out (jx,m.2) gI.out (by have:=J5.out.len;have:=Gl.out;omega)).mono ?_
    rintro e w6 ⟨rfl,v6,r6,g6⟩
    have R6:=hid r6
    have qR:=hid (V7.out.same (g6.keeps V7.out.lt (YZ.out _ _ G5.out).1))
    have oM:=hid (V8.out.same (g6.keeps V8.out.lt (YZ.out _ _ G5.out).2))
    have G6:=hid (G5.out.trans g6)
    have F6:=hid (J5.out.put (m:=(jx,m.2)) gI.out)
    clear r6 g6
    cases gk with
    |zero=>exact absurd Ya.out (by have:=J5.out.len;have:=HI.out;omega)
    |succ gk=>
     go_wp2_with fail
     go_roundg gk
     case measure=>omega
     case rel=>
      refine⟨i+1,_,_,by first|rfl|exact congrArg (Value.int .i64) DT.out,R6,G6,F6,qR,oM,?_,by have:=Ya.out;unfold Hid;omega⟩
      unfold Hid
      rw[<-qQ.out,JQ sJ.out,dQ.out]
      rfl
   by_cases k4:k=4
   ·by_cases q0:q=0
    ·subst k4
     subst q0
     have hx:=dK.out (by decide)
     try simp only at hx
     obtain⟨jx,rfl⟩: ∃jx:Nat,X=(jx:Int):=⟨X.toNat,by have:=hx.1;omega⟩
     have gI:Hid (jx<n):=by unfold Hid;have:=hx.2.1;omega
     have dQ:Hid (IL (ins L j0) s.size 0= [jx]):=by unfold Hid;rw[HX.out];simp[IL]
     clear hx
     have c0:=B9.out.c0
     have c2:=B9.out.c2
     have c3:=B9.out.c3
     have d1:=V8.out.c1
     have e1:=V7.out.c1
     simp only at c0 c2 c3
     go_wp2_with fail
     refine(KR R5.out (jx,m.2) gI.out (by have:=J5.out.len;have:=Gl.out;omega)).mono ?_
     rintro e w6 ⟨rfl,v6,r6,g6⟩
     have R6:=hid r6
     have qR:=hid (V7.out.same (g6.keeps V7.out.lt (YZ.out _ _ G5.out).1))
     have oM:=hid (V8.out.same (g6.keeps V8.out.lt (YZ.out _ _ G5.out).2))
     have G6:=hid (G5.out.trans g6)
     have F6:=hid (J5.out.put (m:=(jx,m.2)) gI.out)
     clear r6 g6
     cases gk with
     |zero=>exact absurd Ya.out (by have:=J5.out.len;have:=HI.out;omega)
     |succ gk=>
      go_wp2_with fail
      go_roundg gk
      case measure=>omega
      case rel=>
       refine⟨i+1,_,_,by first|rfl|exact congrArg (Value.int .i64) DT.out,R6,G6,F6,qR,oM,?_,by have:=Ya.out;unfold Hid;omega⟩
       unfold Hid
       rw[<-qQ.out,JQ sJ.out,dQ.out]
       rfl
    subst k4
    have tq:((q:Int)==0)=false:=by simp;omega
    have dQ:Hid (IL (ins L j0) s.size q= []):=by unfold Hid;rw[HX.out];simp[IL,q0]
    clear q0
    have c0:=B9.out.c0
    have c2:=B9.out.c2
    have c3:=B9.out.c3
    have d1:=V8.out.c1
    have e1:=V7.out.c1
    simp only at c0 c2 c3
    cases gk with
    |zero=>exact absurd Ya.out (by have:=J5.out.len;have:=HI.out;omega)
    |succ gk=>
     go_wp2_with fail
     go_roundg gk
     case measure=>omega
     case rel=>
      refine⟨i+1,_,_,by first|rfl|exact congrArg (Value.int .i64) DT.out,R5,G5,J5,V7,V8,?_,by have:=Ya.out;unfold Hid;omega⟩
      unfold Hid
      rw[<-qQ.out,JQ sJ.out,dQ.out]
      rfl
   by_cases k5:k=5
   ·by_cases q0:q=s.size
    ·subst k5
     have tq:((q:Int)==(s.size:Int))=true:=by simp;omega
     have hx:=dK.out (by decide)
     try simp only at hx
     obtain⟨jx,rfl⟩: ∃jx:Nat,X=(jx:Int):=⟨X.toNat,by have:=hx.1;omega⟩
     have gI:Hid (jx<n):=by unfold Hid;have:=hx.2.1;omega
     have dQ:Hid (IL (ins L j0) s.size q= [jx]):=by unfold Hid;rw[HX.out];simp[IL,q0]
     clear hx q0
     have c0:=B9.out.c0
     have c2:=B9.out.c2
     have c3:=B9.out.c3
     have d1:=V8.out.c1
     have e1:=V7.out.c1
     simp only at c0 c2 c3
     go_wp2_with fail
     refine(KR R5.out (jx,m.2) gI.out (by have:=J5.out.len;have:=Gl.out;omega)).mono ?_
     rintro e w6 ⟨rfl,v6,r6,g6⟩
     have R6:=hid r6
     have qR:=hid (V7.out.same (g6.keeps V7.out.lt (YZ.out _ _ G5.out).1))
     have oM:=hid (V8.out.same (g6.keeps V8.out.lt (YZ.out _ _ G5.out).2))
     have G6:=hid (G5.out.trans g6)
     have F6:=hid (J5.out.put (m:=(jx,m.2)) gI.out)
     clear r6 g6
     cases gk with
     |zero=>exact absurd Ya.out (by have:=J5.out.len;have:=HI.out;omega)
     |succ gk=>
      go_wp2_with fail
      go_roundg gk
      case measure=>omega
      case rel=>
       refine⟨i+1,_,_,by first|rfl|exact congrArg (Value.int .i64) DT.out,R6,G6,F6,qR,oM,?_,by have:=Ya.out;unfold Hid;omega⟩
       unfold Hid
       rw[<-qQ.out,JQ sJ.out,dQ.out]
       rfl
    subst k5
    have tq:((q:Int)==(s.size:Int))=false:=by simp;omega
    have dQ:Hid (IL (ins L j0) s.size q= []):=by unfold Hid;rw[HX.out];simp[IL,q0]
    clear q0
    have c0:=B9.out.c0
    have c2:=B9.out.c2
    have c3:=B9.out.c3
    have d1:=V8.out.c1
    have e1:=V7.out.c1
    simp only at c0 c2 c3
    cases gk with
    |zero=>exact absurd Ya.out (by have:=J5.out.len;have:=HI.out;omega)
    |succ gk=>
     go_wp2_with fail
     go_roundg gk
     case measure=>omega
     case rel=>
      refine⟨i+1,_,_,by first|rfl|exact congrArg (Value.int .i64) DT.out,R5,G5,J5,V7,V8,?_,by have:=Ya.out;unfold Hid;omega⟩
      unfold Hid
      rw[<-qQ.out,JQ sJ.out,dQ.out]
      rfl
   have t6:(k==6)=false:=by simpa using k6
   have t8:(k==8)=false:=by simpa using k8
   have t4:(k==4)=false:=by simpa using k4
   have t5:(k==5)=false:=by simpa using k5
   have dQ:Hid (IL (ins L j0) s.size q= []):=by unfold Hid;rw[HX.out];simp[IL,k6,k8,k4,k5]
   clear k6 k8 k4 k5
   have c0:=B9.out.c0
   have c2:=B9.out.c2
   have c3:=B9.out.c3
   have d1:=V8.out.c1
   have e1:=V7.out.c1
   simp only at c0 c2 c3
   cases gk with
   |zero=>exact absurd Ya.out (by have:=J5.out.len;have:=HI.out;omega)
   |succ gk=>
    go_wp2_with fail
    go_roundg gk
    case measure=>omega
    case rel=>
     refine⟨i+1,_,_,by first|rfl|exact congrArg (Value.int .i64) DT.out,R5,G5,J5,V7,V8,?_,by have:=Ya.out;unfold Hid;omega⟩
     unfold Hid
     rw[<-qQ.out,JQ sJ.out,dQ.out]
     rfl
  have ti: ¬(i:Int)<(M1.length:Int):=by omega
  obtain⟨A1,c1,rfl,hk1,hk2⟩:=R1.out.form
  unfold maxLen at hk2
  have hr0:=R1.out.c0
  have HE:Hid (M1=R):=by unfold Hid;rw[<-qQ.out,oL (by omega)]
  obtain⟨k1,hk⟩: ∃k1,M1.length=k1:=⟨_,rfl⟩
  rw[hk]at hk1 hr0 R1 G1 ti
  clear hi hk
  go_wp2_with fail
  go_end0
  rw[<-HE.out]
  exact⟨rfl,_,R1.out,(EM.of L2.out).trans G1.out⟩
end Fg
namespace Fg
open Strs Al Range
open BR (Text steps)
open W14 (AZ Bi BL AO)
open Kit (below_draws on)
theorem Dt.cut {base:Nat} {w:World} {r g n:Nat} {A:Option Addr} {k c:Nat} {M:List BR.Mark} {f:Nat->Bool} (h:Dt base w r (.slice A k c) g n M f):Dt base (w.setCell ⟨r,0,none⟩ (.slice A 0 c)) r (.slice A 0 c) g n [] f/\EM r g (.slice A k c) (.slice A 0 c) w (w.setCell ⟨r,0,none⟩ (.slice A 0 c)):=by
 have hob: ∀i,(Value.slice A 0 c).ownBlock=some i->(Value.slice A k c).ownBlock=some i:=fun i hi=>by cases A<;>exact hi
 refine⟨⟨h.low,h.dJ,?_,?_,(heap_setCell_other w _ g _ (fun e=>h.rg e.symm)).trans h.bits⟩,⟨AP.setCell _ (Or.inl rfl),fun i hi=>Or.inl (hob i hi)⟩⟩
 ·rw[heap_setCell_same w r 0 _ _ _ h.box];rfl
 refine⟨rfl,?_⟩
 rcases h.own.2 with⟨e,h0⟩|⟨g1,cap,cur,e,hb,hh,hc,hm,hs,ht⟩
 ·injection e with e1 e2 e3
  subst e1 e2 e3
  exact Or.inl ⟨rfl,rfl⟩
 injection e with e1 e2 e3
 subst e1 e2 e3
 refine Or.inr ⟨g1,c,cur,rfl,hb,(heap_setCell_other w _ g1 _ fun e=> ?_).trans hh,Nat.zero_le _,hm,hs,by simp⟩
 have e2:g1=r:=e
 rw[e2,h.box]at hh
 injection hh with hh
 injection hh with _ hh
 exact absurd hh (by decide)
theorem LZ {w:World} {base gm n c:Nat} {M:List BR.Mark} (h:w.ownsRow base 132 2 (.slice (some ⟨gm,0,none⟩) n c) M.length (M.flatMap Ep)) (hn:M.length=n) {i:Nat} (hi:i<M.length): ∀j,j<2->w.cell? ⟨gm,i*2+j,none⟩=(Ep M[i])[j]? :=fun j hj=>by
 rw[hn]at h
 rw[h.cellAt _ (by omega),GZ Fh M i hi j hj]
section
variable {ops:Array Oper} {rest:List Oper} {o:Oper} {a:Act} {w:World} {Q:Exit->Act->World->Prop}
theorem DX (hgd:o.guard=none) (ho:o.op= .alloc 132)
    (h: ∀w' b,w.heap.size=b->Gb w' b (0,0)->Below w.heap.size w w'->w'.heap.size=w.heap.size+1->wpList Tryz.prog ops Q rest (a.put o.dst (.pointer (some ⟨b,0,none⟩))) w'):wpList Tryz.prog ops Q (o::rest) a w:=
 wpList_plain hgd fun _ hK=>by
  obtain⟨i,hi,h1,-,-⟩:=info_parts Iu
  have hz:(zeroValue 132).run Tryz.prog w= .ok (.agg (FM (0,0))) w:=by simp[zeroValue,typeInfo,hi,h1];rfl
  unfold Oper.wp execOp
  simp only[ho,Instr.alloc,newVar,newRow,hz,Sem.run_bind,Sem.run_pure,Result.andThen_ok]
  exact hK _ _ (h _ _ rfl (heap_alloc_new w _) (AZ w _) (World.size_alloc w _))
theorem DY (hgd:o.guard=none) (x y:Operand) (ho:o.op= .store 132 x y) {b:Nat} {r old:BR.Mark} (hx:a.eval x= .pointer (some ⟨b,0,none⟩)) (hy:a.eval y= .agg (FM r)) (hr:Gb w b old)
    (h: ∀w',Gb w' b r->BU.Beside b w w'->w'.heap.size=w.heap.size->wpList Tryz.prog ops Q rest (a.put o.dst undef) w'):wpList Tryz.prog ops Q (o::rest) a w:=
 wpList_store_row hgd 132 x y ho b (FM r) hx hy 132 (FM old) hr (UM r) rfl (by simp[FM,Value.oneCell'])
  (h _ (setRow_heap w b _ _ _ _ hr) ⟨rfl,rfl,rfl,by rw[setRow_size];exact Nat.le_refl _,fun k _ e=>setRow_other w b k _ e⟩ (setRow_size _ _ _))
theorem Dv (hgd:o.guard=none) (x:Operand) (ho:o.op= .load 132 x) {b k:Nat} (hx:a.eval x= .pointer (some ⟨b,k,none⟩)) {r:BR.Mark}
    (hr: ∀j,j<2->w.cell? ⟨b,k+j,none⟩=(Ep r)[j]?) (h:wpList Tryz.prog ops Q rest (a.put o.dst (.agg (FM r))) w):wpList Tryz.prog ops Q (o::rest) a w:=
 wpList_plain hgd fun _ hK=>by
  unfold Oper.wp
  rw[Ko x ho hx hr]
  exact hK _ _ h
end
set_option maxHeartbeats 8000000 in
theorem KV {base:Nat} {w:World} {r g n:Nat} {v:Value} {M:List BR.Mark} (h:Gx base w r v g n M) (hK:Fit n M) (hn:n<=900000):Calls Tryz.prog 116 #[.pointer (some ⟨r,0,none⟩)] w fun e w'=>e= .returned (.tuple #[])/\ ∃v',Gx base w' r v' g n []/\EM r g v v' w w':=by
 have H:=hid h
 have HK:=hid hK
 obtain⟨A,c,rfl,h1,h2⟩:=h.form
 obtain⟨k,hk⟩: ∃k,M.length=k:=⟨_,rfl⟩
 have uL:=hid hk
 have HL:Hid (k<=n/\n<=900000):=⟨by rw[<-hk];exact hK.len,hn⟩
 rw[hk]at H h1 ⊢
 have c0:=H.out.c0
 unfold maxLen at h2
 clear h hK hn hk
 go_enter Tryz.func116,Tryz.ntmps116
 go_wp2_with fail
 clear c0 h1 h2
 go_loopg [9] k (fun gk s9 wr=> ∃i:Nat,s9= .int .i64 i/\Hid (i+gk=k)/\Hid (Dt base wr r (.slice A k c) g n M (fun j=>decide (j∈steps (M.drop i))))/\Hid (EM r g (.slice A k c) (.slice A k c) w wr))
 case atStart=>exact⟨0,rfl,by unfold Hid;omega,H,EM.refl _ _ _ _⟩
 case round=>
  obtain⟨i,rfl,hig,R1,G1⟩:=hrel
  cases gk with
  |zero=>
   have hi:i=k:=by have:=hig.out;omega
   subst hi
   have ti: ¬(i:Int)<(i:Int):=by omega
   have r2:Gx base wr r (.slice A i c) g n M->True:=fun _=>trivial
   have R2:Hid (Dt base wr r (.slice A i c) g n M (fun _=>false)):=R1.out.is fun j _=>by rw[<-uL.out,List.drop_length];simp[steps]
   have c0:=R2.out.c0
   have f0:=R2.out.f0
   clear r2
   go_wp2_with fail
   go_end0
   have h9:=R2.out.cut
   exact⟨rfl,_,h9.1.is fun j _=>by simp[steps],G1.out.trans h9.2⟩
  |succ gk=>
   have hi:i<k:=by have:=hig.out;omega
   have ti:(i:Int)<(k:Int):=by omega
   have hil:i<M.length:=by rw[uL.out];exact hi
   obtain⟨gm,c',e,-,-,hk1,hk2⟩:=BL R1.out.own (by omega)
   have eA:A=some ⟨gm,0,none⟩:=by injection e
   subst eA
   obtain⟨⟨j0,b0⟩,hx0⟩: ∃x,M[i]=x:=⟨_,rfl⟩
   have hj0:j0<n:=by have:=HK.out.2 M[i] (List.getElem_mem hil);rw[hx0]at this;exact this
   have hmc:=LZ R1.out.own uL.out hil
   rw[hx0]at hmc
   have az:=hid hmc
   have hdrop:M.drop i=(j0,b0)::M.drop (i+1):=by rw[List.drop_eq_getElem_cons hil,hx0]
   have hnd:j0∉steps (M.drop (i+1)):=by
    have h3:(steps (M.drop i)).Nodup:=by
     have:=HK.out.1
     unfold steps at*
     rw[List.map_drop]
     exact this.sublist (List.drop_sublist _ _)
    rw[hdrop]at h3
    exact(List.nodup_cons.1 h3).1
   have HS:Hid (∀j,(if j=j0 then false else decide (j∈steps (M.drop i)))=decide (j∈steps (M.drop (i+1)))):=fun j=>by
    rw[hdrop]
    by_cases q:j=j0
    ·subst q;simp[hnd]
    rw[if_neg q]
    exact decide_eq_decide.2 (by simp[steps,q])
   have hjn:(j0:Int)<(n:Int):=by omega
   have DT:Hid (wrap64 ((i:Int)+1)=((i+1:Nat):Int)):=by unfold Hid wrap64;have:=HL.out;omega
   have HJ0:=hid hj0
   clear e hk1 hk2 hmc hdrop hnd hx0 hil hj0 hi
   go_wp2_with (first
    |(refine Dv (r:=(j0,b0)) rfl (.tmp 11) rfl rfl az.out ?_)
    |(refine DX rfl rfl ?_;intro w3 b3 e3 p3 l3 z3)
    |(refine DY (r:=(j0,b0)) rfl (.tmp 3) (.tmp 12) rfl rfl rfl p3 ?_;intro w4 p4 l4 z4;have L4:=hid (W14.AY l3 l4 e3);have P4:=hid p4;have a0:=p4.c0;have E3:=hid e3;have R4:=hid (R1.out.below L4.out);have a1:=R4.out.c1;have a2:=R4.out.bits.cell HJ0.out;have a3:=R4.out.bits.free j0;clear e3 p3 l3 z3 p4 l4 z4;simp only at a0))
   generalize decide (j0∈steps (M.drop i))=old at a2
   go_region
   all_goals (
    have r5:=(R4.out.below (below_draws w4 1)).set j0 false
    have G5:=hid ((G1.out.trans (EM.of (on L4.out (below_draws w4 1)))).trans r5.2)
    have R5:=hid (r5.1.is fun j _=>HS.out j)
    clear r5 a0 a1 a2 a3
    go_wp2_with fail
    go_roundg gk
    case measure=>omega
    case rel=>exact⟨i+1,by first|rfl|exact congrArg (Value.int .i64) DT.out,by unfold Hid;have:=hig.out;omega,R5,G5⟩)
end Fg
namespace Fg
open Strs Al Range
open Bv (AL Ca)
open BR (Text steps)
open EH (Qc)
open W14 (AO AZ)
open Kit (below_draws on)
structure TB (w:World) (b:Nat) (lv:Value) (s:ByteArray) (first last:Nat):Prop where
 c0:w.cell? ⟨b,0,none⟩=some lv
 c1:w.cell? ⟨b+1,0,none⟩=some (.string s)
 c2:w.cell? ⟨b+2,0,none⟩=some (.int .i64 first)
 c3:w.cell? ⟨b+3,0,none⟩=some (.int .i64 last)
theorem TB.same {w w':World} {b:Nat} {lv:Value} {s:ByteArray} {first last:Nat} (h:TB w b lv s first last) (hk: ∀k,b<=k->k<b+4->w'.heap[k]? =w.heap[k]?):TB w' b lv s first last:=
 ⟨(AO (hk b (by omega) (by omega))).trans h.c0,(AO (hk (b+1) (by omega) (by omega))).trans h.c1,(AO (hk (b+2) (by omega) (by omega))).trans h.c2,(AO (hk (b+3) (by omega) (by omega))).trans h.c3⟩
theorem TB.lt {w:World} {b:Nat} {lv:Value} {s:ByteArray} {first last:Nat} (h:TB w b lv s first last):b+3<w.heap.size:=World.block_lt_of_cell? w _ h.c3
def Four (b k:Nat):Prop:=b<=k/\k<b+4
structure wQ where
 base:Nat
 b:Nat
 lv:Value
 L:List AL
 s:ByteArray
 first:Nat
 last:Nat
structure It (C:wQ) (J:(Nat->Prop)->List BR.Mark->World->Prop) (T0:Nat->Prop) (W:World) (T:Nat->Prop) (pre:List BR.Mark) (w:World) (b6 r1 g1:Nat) (v1:Value) (now:List BR.Mark) (r2 g2:Nat) (v2:Value) (nx:List BR.Mark):Prop where
 j:J T pre w
 all:AP (fun k=>C.base<=k) W w
 lies:GH C.base T w
 low:C.base<=w.heap.size
 sub: ∀k,T0 k->T k
 Iy:TB w C.b C.lv C.s C.first C.last
 four: ∀k,Four C.b k->T k
 run:GJ w b6 C.lv C.s
 six:T b6
 FW:Gx C.base w r1 v1 g1 C.L.length now
 Ld:Gx C.base w r2 v2 g2 C.L.length nx
 mR: ∀k,RF r1 g1 v1 k->T k
 jM: ∀k,RF r2 g2 v2 k->T k
 apart: ∀k,RF r1 g1 v1 k-> ¬RF r2 g2 v2 k
 VQ: ∀k,(Four C.b k\/k=b6)-> ¬RF r1 g1 v1 k
 RJ: ∀k,(Four C.b k\/k=b6)-> ¬RF r2 g2 v2 k
 prog:Qc C.base w C.lv C.L
section
variable {C:wQ} {J:(Nat->Prop)->List BR.Mark->World->Prop} {T0 T:Nat->Prop} {W:World} {pre:List BR.Mark} {w w':World} {b6 r1 g1 r2 g2:Nat} {v1 v2 v':Value} {now nx M:List BR.Mark}
theorem It.swap (h:It C J T0 W T pre w b6 r1 g1 v1 now r2 g2 v2 nx):It C J T0 W T pre w b6 r2 g2 v2 nx r1 g1 v1 now:=
 {h with FW:=h.Ld,Ld:=h.FW,mR:=h.jM,jM:=h.mR,apart:=fun k h1 h2=>h.apart k h2 h1,VQ:=h.RJ,RJ:=h.VQ}
theorem It.Pk (h:It C J T0 W T pre w b6 r1 g1 v1 now r2 g2 v2 nx) {k:Nat} (hk:Four C.b k\/k=b6):k<w.heap.size:=by
 rcases hk with hk|rfl
 ·have:=h.Iy.lt;have:=hk.2;omega
 exact h.run.lt
theorem It.below (hJ:IM C.base J) (h:It C J T0 W T pre w b6 r1 g1 v1 now r2 g2 v2 nx) (hb:Below w.heap.size w w'):It C J T0 W (FL T w w') pre w' b6 r1 g1 v1 now r2 g2 v2 nx:=
 {j:=hJ _ _ _ _ h.j h.lies h.low (AP.new hb)
  all:=h.all.trans (AP.new hb)
  lies:=h.lies.fresh h.low hb.size
  low:=Nat.le_trans h.low hb.size
  sub:=fun k hk=>Or.inl (h.sub k hk)
  Iy:=h.Iy.same fun k h1 h2=>hb.block k (h.Pk (Or.inl ⟨h1,h2⟩))
  four:=fun k hk=>Or.inl (h.four k hk)
  run:=h.run.below hb
  six:=Or.inl h.six
  FW:=h.FW.below hb
  Ld:=h.Ld.below hb
  mR:=fun k hk=>Or.inl (h.mR k hk)
  jM:=fun k hk=>Or.inl (h.jM k hk)
  apart:=h.apart
  VQ:=h.VQ
  RJ:=h.RJ
  prog:=h.prog.below (hb.mono h.low)}
theorem It.Xb (hJ:IM C.base J) (h:It C J T0 W T pre w b6 r1 g1 v1 now r2 g2 v2 nx) (hr:Gx C.base w' r2 v' g2 C.L.length M) (hg:EM r2 g2 v2 v' w w'):It C J T0 W (FL T w w') pre w' b6 r1 g1 v1 now r2 g2 v' M:=by
 have hold: ∀k,RF r2 g2 v' k->RF r2 g2 v2 k\/(w.heap.size<=k/\k<w'.heap.size):=fun k hk=>by
  rcases hk with hk|hk|hk
  ·exact Or.inl (Or.inl hk)
  ·exact Or.inl (Or.inr (Or.inl hk))
  rcases hg.own k hk with q|q
  ·exact Or.inl (Or.inr (Or.inr q))
  exact Or.inr ⟨q,(hr.own.lt k hk).2⟩
 have hkeep: ∀k,k<w.heap.size-> ¬RF r2 g2 v2 k->w'.heap[k]? =w.heap[k]? :=fun k hk hn=>hg.keeps hk hn
 exact {
  j:=hJ _ _ _ _ h.j h.lies h.low (hg.turns.wider h.jM)
  all:=h.all.trans (hg.turns.wider fun k hk=>(h.Ld.mM hk).1)
  lies:=h.lies.fresh h.low hg.turns.size
  low:=Nat.le_trans h.low hg.turns.size
  sub:=fun k hk=>Or.inl (h.sub k hk)
  Iy:=h.Iy.same fun k h1 h2=>hkeep k (h.Pk (Or.inl ⟨h1,h2⟩)) (h.RJ k (Or.inl ⟨h1,h2⟩))
  four:=fun k hk=>Or.inl (h.four k hk)
  run:=h.run.same (hkeep b6 h.run.lt (h.RJ b6 (Or.inr rfl)))
  six:=Or.inl h.six
  FW:=h.FW.same fun k hk=>hkeep k (h.FW.mM hk).2 (h.apart k hk)
  Ld:=hr
  mR:=fun k hk=>Or.inl (h.mR k hk)
  jM:=fun k hk=>by
   rcases hold k hk with q|q
   ·exact Or.inl (h.jM k q)
   exact Or.inr q
  apart:=fun k h1 h2=>by
   rcases hold k h2 with q|q
   ·exact h.apart k h1 q
   have:=(h.FW.mM h1).2;omega
  VQ:=h.VQ
  RJ:=fun k hk h2=>by
   rcases hold k h2 with q|q
   ·exact h.RJ k hk q
   have:=h.Pk hk;omega
  prog:=h.prog.below (hg.below h.Ld)}
theorem It.Xc (hJ:IM C.base J) (h:It C J T0 W T pre w b6 r1 g1 v1 now r2 g2 v2 nx) (hr:Gx C.base w' r1 v' g1 C.L.length M) (hg:EM r1 g1 v1 v' w w'):It C J T0 W (FL T w w') pre w' b6 r1 g1 v' M r2 g2 v2 nx:=(h.swap.Xb hJ hr hg).swap
theorem It.round (h:It C J T0 W T pre w b6 r1 g1 v1 now r2 g2 v2 nx) {pre':List BR.Mark} (hj:J T pre' w') (ht:AP (fun k=>C.base<=k/\ ¬T k) w w'):It C J T0 W T pre' w' b6 r1 g1 v1 now r2 g2 v2 nx:=by
 have hkeep: ∀k,k<w.heap.size->T k->w'.heap[k]? =w.heap[k]? :=fun k hk hT=>ht.block k hk fun q=>q.2 hT
 exact {
  j:=hj
  all:=h.all.trans (ht.wider fun k hk=>hk.1)
  lies:=h.lies.more ht.size
  low:=Nat.le_trans h.low ht.size
  sub:=h.sub
  Iy:=h.Iy.same fun k h1 h2=>hkeep k (h.Pk (Or.inl ⟨h1,h2⟩)) (h.four k ⟨h1,h2⟩)
  four:=h.four
  run:=h.run.same (hkeep b6 h.run.lt h.six)
  six:=h.six
  FW:=h.FW.same fun k hk=>hkeep k (h.FW.mM hk).2 (h.mR k hk)
  Ld:=h.Ld.same fun k hk=>hkeep k (h.Ld.mM hk).2 (h.jM k hk)
  mR:=h.mR
  jM:=h.jM
  apart:=h.apart
  VQ:=h.VQ
  RJ:=h.RJ
  prog:=h.prog.below ⟨ht.os,ht.tape,ht.output,ht.size,fun k hk=>ht.block k (by have:=h.low;omega) (fun q=>by omega)⟩}
end
/-! the run's box -/
theorem Xd:(Tryz.prog.info? 124).map (fun i=>(i.zero,i.size,i.bytes))=some (some (.agg #[.slice none 0 0,.string ⟨#[]⟩]),2,40):=by kernel_rfl
theorem Xe (lv:Value) (s:ByteArray):(Tryz.prog.info? 124).map (·.size)=some (#[lv,.string s]:Array Value).size:=by
 obtain⟨i,hi,-,h2,-⟩:=info_parts Xd
 rw[hi];simp[h2]
section
variable {ops:Array Oper} {rest:List Oper} {o:Oper} {a:Act} {w:World} {Q:Exit->Act->World->Prop}
theorem dR (hgd:o.guard=none) (ho:o.op= .alloc 124)
    (h: ∀w' b,w.heap.size=b->GJ w' b (.slice none 0 0) ⟨#[]⟩->Below w.heap.size w w'->w'.heap.size=w.heap.size+1->wpList Tryz.prog ops Q rest (a.put o.dst (.pointer (some ⟨b,0,none⟩))) w'):wpList Tryz.prog ops Q (o::rest) a w:=
 wpList_plain hgd fun _ hK=>by
  obtain⟨i,hi,h1,-,-⟩:=info_parts Xd
  have hz:(zeroValue 124).run Tryz.prog w= .ok (.agg #[.slice none 0 0,.string ⟨#[]⟩]) w:=by simp[zeroValue,typeInfo,hi,h1]
  unfold Oper.wp execOp
  simp only[ho,Instr.alloc,newVar,newRow,hz,Sem.run_bind,Sem.run_pure,Result.andThen_ok]
  exact hK _ _ (h _ _ rfl (heap_alloc_new w _) (AZ w _) (World.size_alloc w _))
theorem dS (hgd:o.guard=none) (x y:Operand) (ho:o.op= .store 124 x y) {b:Nat} {A:Option Addr} {n c:Nat} {old:Value} {s olds:ByteArray} (hx:a.eval x= .pointer (some ⟨b,0,none⟩)) (hy:a.eval y= .agg #[.slice A n c,.string s]) (hr:GJ w b old olds)
    (h: ∀w',GJ w' b (.slice A n c) s->BU.Beside b w w'->w'.heap.size=w.heap.size->wpList Tryz.prog ops Q rest (a.put o.dst undef) w'):wpList Tryz.prog ops Q (o::rest) a w:=
 wpList_store_row hgd 124 x y ho b #[.slice A n c,.string s] hx hy 124 #[old,.string olds] hr (Xe _ s) rfl (by simp[Value.oneCell'])
  (h _ (setRow_heap w b _ _ _ _ hr) ⟨rfl,rfl,rfl,by rw[setRow_size];exact Nat.le_refl _,fun k _ e=>setRow_other w b k _ e⟩ (setRow_size _ _ _))
theorem J6 (hgd:o.guard=none) (x:Operand) (ho:o.op= .load 124 x) {b:Nat} (hx:a.eval x= .pointer (some ⟨b,0,none⟩)) {lv:Value} {s:ByteArray} (hr:GJ w b lv s) (h:wpList Tryz.prog ops Q rest (a.put o.dst (.agg #[lv,.string s])) w):wpList Tryz.prog ops Q (o::rest) a w:=
 wpList_load_row hgd 124 x ho b hx 124 #[lv,.string s] (0,0) _ hr Tryz.underlying124 rfl (Xe lv s) h
end
theorem dU (A:Option Addr) (n c:Nat) (s:ByteArray) (w:World):(Instr.build 124 #[(0,.slice A n c),(1,.string s)]).run Tryz.prog w= .ok (.agg #[.slice A n c,.string s]) w:=by kernel_rfl
theorem jN {C:wQ} {J:(Nat->Prop)->List BR.Mark->World->Prop} {T0:Nat->Prop} {W w1 w2 w3:World} {b6 r1 g1 r2 g2:Nat} (hJ:IM C.base J) (hj:J T0 [] W) (hl:GH C.base T0 W) (hb:C.base<=W.heap.size) (h4: ∀k,Four C.b k->T0 k) (hc:TB W C.b C.lv C.s C.first C.last) (hP:Qc C.base W C.lv C.L)
    (l1:Below W.heap.size W w1) (hrun:GJ w1 b6 C.lv C.s) (h6:W.heap.size<=b6)
    (R1:Gx C.base w2 r1 (.slice none 0 0) g1 C.L.length []) (e1:w1.heap.size<=r1/\w1.heap.size<=g1) (l2:Below w1.heap.size w1 w2)
    (R2:Gx C.base w3 r2 (.slice none 0 0) g2 C.L.length []) (e2:w2.heap.size<=r2/\w2.heap.size<=g2) (l3:Below w2.heap.size w2 w3):
    It C J T0 W (FL T0 W w3) [] w3 b6 r1 g1 (.slice none 0 0) [] r2 g2 (.slice none 0 0) []:=by
 have lb:=on (on l1 l2) l3
 have hlt:=hc.lt
 have z1:=l1.size
 have z2:=l2.size
 have z3:=l3.size
 have hs6:=hrun.lt
 have q1:=R1.lt
 have q2:=R1.bits.lt
 have q3:=R2.lt
 have q4:=R2.bits.lt
 exact {
  j:=hJ _ _ _ _ hj hl hb (AP.new lb)
  all:=AP.of_below (lb.mono hb) (fun k h1 _=>h1)
  lies:=hl.fresh hb lb.size
  low:=Nat.le_trans hb lb.size
  sub:=fun k hk=>Or.inl hk
  Iy:=hc.same fun k h1 h2=>lb.block k (by omega)
  four:=fun k hk=>Or.inl (h4 k hk)
  run:=hrun.below (on l2 l3)
  six:=Or.inr ⟨h6,by omega⟩
  FW:=R1.below l3
  Ld:=R2
  mR:=fun k hk=>by
   rcases hk with rfl|rfl|hk
   ·exact Or.inr ⟨by omega,by omega⟩
   ·exact Or.inr ⟨by omega,by omega⟩
   cases hk
  jM:=fun k hk=>by
   rcases hk with rfl|rfl|hk
   ·exact Or.inr ⟨by omega,by omega⟩
   ·exact Or.inr ⟨by omega,by omega⟩
   cases hk
  apart:=fun k h1 h2=>by
   rcases h1 with rfl|rfl|h1
   ·rcases h2 with h2|h2|h2
    ·omega
    ·omega
    cases h2
   ·rcases h2 with h2|h2|h2
    ·omega
    ·omega
    cases h2
   cases h1
  VQ:=fun k hk h1=>by
   have:k<w1.heap.size:=by
    rcases hk with hk|rfl
    ·have:=hk.2;omega
    exact hs6
   rcases h1 with h1|h1|h1
   ·omega
   ·omega
   cases h1
  RJ:=fun k hk h1=>by
   have:k<w1.heap.size:=by
    rcases hk with hk|rfl
    ·have:=hk.2;omega
    exact hs6
   rcases h1 with h1|h1|h1
   ·omega
   ·omega
   cases h1
  prog:=hP.below (lb.mono hb)}
end Fg
end Go.Proofs.YtfgegjinhkgpbaaGreatDoor
