/-
  Texts joined, in build order, each with its own comment and its own conditions: W16RKids, W16RTimes, W16RByte, W16RAll.
-/
import Derived.Test.YtfgegjinhkgpbaaGreatDoorJ30
namespace Go.Proofs.YtfgegjinhkgpbaaGreatDoor
set_option maxHeartbeats 4000000
set_option maxRecDepth 100000
open Go.RowKit
open Lib (hid)
namespace BR
open Go Bv
open Cj (Piece leaf)
variable {s:Text} {q u:Nat}
theorem OP: ∀ {l:List Piece} {p:Piece} {q u:Nat},Gc s (l++ [p]) q u↔ ∃v,Gc s l q v/\E s p v u
 | [],p,q,u=>by
  rw[List.nil_append,Gc]
  simp only[Gc]
  constructor
  ·rintro⟨v,h1,rfl⟩;exact⟨q,rfl,h1⟩
  rintro⟨v,rfl,h1⟩;exact⟨u,h1,rfl⟩
 |x::l,p,q,u=>by
  simp only[List.cons_append,Gc]
  constructor
  ·rintro⟨v,h1,h2⟩
   obtain⟨z,h3,h4⟩:=OP.1 h2
   exact⟨z,⟨v,h1,h3⟩,h4⟩
  rintro⟨z,⟨v,h1,h3⟩,h4⟩
  exact⟨v,h1,OP.2 ⟨z,h3,h4⟩⟩
theorem Uu: ∀ {l:List Piece} {p:Piece} {q u:Nat},Hq s (l++ [p]) q u↔(Hq s l q u\/E s p q u)
 | [],p,q,u=>by
  simp[Hq]
 |x::l,p,q,u=>by
  rw[List.cons_append,Hq,Hq,Uu,or_assoc]
theorem bN: ∀ {l:List Piece},(∀p,p∈l->Bv.Good p)-> ∀q t,q<=s.length->Gc s l q t->t<=s.length
 | [],_,q,t,hq,h=>by rw[Gc]at h;omega
 |p::l,hg,q,t,hq,h=>by
  rw[Gc]at h
  obtain⟨v,h1,h2⟩:=h
  exact bN (fun p hp=>hg p (by simp[hp])) v t (qA (hg p (by simp)) q v hq h1) h2
theorem EY {ks:List Piece} {i:Nat} (hi:i<ks.length):ks.take (i+1)=ks.take i++ [ks[i]]:=by
 rw[List.take_add_one,List.getElem?_eq_getElem hi]
 rfl
theorem EC.seq {ks:List Piece} {n i:Nat} {l l1 l2:List Bool} (hn:s.length=n) (hg: ∀p,p∈ks->Bv.Good p) (hi:i<ks.length) (h1:EC n (Gc s (ks.take i)) l l1) (h2:EC n (E s ks[i]) l1 l2):EC n (Gc s (ks.take (i+1))) l l2:=by
 refine(h1.trans h2 fun q t hq h=> ?_).same fun q t _ _=> ?_
 ·subst hn
  exact bN (fun p hp=>hg p (List.mem_of_mem_take hp)) q t hq h
 rw[EY hi,OP]
theorem EC.alt {ks:List Piece} {n i:Nat} {l l1 l2:List Bool} (hi:i<ks.length) (h1:EC n (Hq s (ks.take i)) l l1) (h2:EC n (E s ks[i]) l l2):EC n (Hq s (ks.take (i+1))) l (O9 l1 l2):=by
 refine(h1.or h2).same fun q t _ _=> ?_
 rw[EY hi,Uu]
end BR
namespace Fg
open Strs Al
open Cj (Piece leaf)
open BR (at_ O9 places EC Jb E Gc Hq takes)
open W14 (Raw Ak Be Ad AV AU Aq AZ Bi)
open Kit (below_draws on CG)
section
variable {s:ByteArray}
set_option maxHeartbeats 8000000 in
theorem fo (hs:s.size<=500) {t:ByteArray} {ks:List Piece} {m tp:Int} (IH: ∀i (hi:i<ks.length),Ho s ks[i]) (hg: ∀p,p∈ks->Bv.Good p):Ho s (.mk 7 t ks m tp):=by
 intro w r v l hp hv hl
 obtain⟨A,c,Ag,rfl,k1⟩:=hp.parts
 have hsl:s.data.toList.length=s.size:=(Lib.size_eq s).symm
 have qX:=hid hsl
 have HI:=hid IH
 have HG:=hid hg
 have HV:=hid hv
 have K0:=hid k1
 have HR:=hid k1.room
 obtain⟨n,hn⟩: ∃n,s.size+1=n:=⟨_,rfl⟩
 have hw1:wrap64 ((s.size:Int)+1)=(n:Int):=by have:=E_ (k:=s.size+1) (by omega);rw[hn]at this;rw[<-this,<-hn];rfl
 have HN:=hid (show n<=501/\l.length=n/\s.size+1=n from⟨by omega,by omega,by omega⟩)
 have HE:Hid (∀l',EC s.size (Gc s.data.toList ks) l l'->EC s.size (E s.data.toList (.mk 7 t ks m tp)) l l'):=fun l' h=>h.same fun q u _ _=>by
  rw[E,if_neg (by decide),if_neg (by decide),if_neg (by decide),if_neg (by decide),if_pos rfl]
 have hI0:EC s.size (Gc s.data.toList (ks.take 0)) l l:=(Jb hl).same fun q u _ _=>by rw[List.take_zero,Gc]
 have HI0:=hid hI0
 clear hp k1 hv hn hs hl hsl IH hg hI0
 go_enter Tryz.func56,Tryz.ntmps56
 go_wp2_with (first
  |(refine AV (r:=⟨7,t,A,ks.length,c,m,tp⟩) rfl (.tmp 0) rfl rfl ?_;intro w1 b1 e1 p1 l1 z1;have a0:=p1.c0;have P1:=hid p1;have L1:=hid l1;clear e1 p1 l1 z1;simp only at a0)
  |(refine FR (n:=n) rfl (.tmp 16) (.tmp 16) rfl (congrArg (Value.int .i64) hw1) (congrArg (Value.int .i64) hw1) (by have:=HN.out;omega) ?_;intro w2 bm e2 p2 l2 z2;have L2:=hid (on L1.out l2);have B2:=hid (P1.out.below l2);have a2:=(P1.out.below l2).c0;clear e2 p2 l2 z2 a0;simp only at a2))
 clear P1 L1 a2 hw1
 go_loopg [11,12] ks.length (fun gk s11 s12 wr=> ∃(i:Nat) (vi:Value) (li:List Bool),vi=s11/\s12= .int .i64 i/\Hid (i+gk=ks.length)/\Hid (KI wr.heap.size wr vi li/\li.length=n/\EC s.size (Gc s.data.toList (ks.take i)) l li)/\Hid (Below w.heap.size w wr)/\Hid (Ad wr b1 ⟨7,t,A,ks.length,c,m,tp⟩))
 case atStart=>exact⟨0,v,l,rfl,rfl,by unfold Hid;omega,⟨(HV.out.below L2.out).more L2.out.size,HN.out.2.1,HI0.out⟩,L2,B2⟩
 case round=>
  clear L2 B2 HI0
  obtain⟨i,vi,li,rfl,rfl,hig,TR,LB,PB⟩:=hrel
  have a2:=PB.out.c2
  simp only at a2
  have hn1:=HR.out.1
  have hn2:=HR.out.2
  cases gk with
  |zero=>
   have hi:i=ks.length:=by have:=hig.out;omega
   subst hi
   have ti: ¬(ks.length:Int)<(ks.length:Int):=by omega
   go_wp2_with fail
   go_ret
   have h3:=TR.out.2.2
   rw[List.take_length]at h3
   exact⟨_,HE.out _ h3,_,rfl,TR.out.1,LB.out⟩
  |succ gk=>
   have hi:i<ks.length:=by have:=hig.out;omega
   have ti:(i:Int)<(ks.length:Int):=by omega
   obtain⟨i1,hi1⟩: ∃i1,i+1=i1:=⟨_,rfl⟩
   have DT:Hid ((i:Int)+1=(i1:Int)):=by unfold Hid;omega
   have KK:=K0.out.below LB.out
   obtain⟨g1,o1,rfl,C1⟩:=KK.at_ (Nat.lt_of_le_of_lt (Nat.zero_le _) hi)
   obtain⟨hr1,q1⟩:=KK.kid hi
   have E1:=hid (C1 i hr1)
   obtain⟨rk,Hy⟩: ∃rk,Ag[i]'hr1=rk:=⟨_,rfl⟩
   rw[Hy]at E1 q1
   have HC:=hid (HI.out i hi _ rk vi li q1 TR.out.1 (by have:=TR.out.2.1;have:=HN.out;omega))
   have HX:Hid (∀l2,EC s.size (E s.data.toList (ks[i]'hi)) li l2->EC s.size (Gc s.data.toList (ks.take i1)) l l2):=fun l2 h2=>by
    rw[<-hi1]
    exact BR.EC.seq qX.out HG.out hi TR.out.2.2 h2
   have IY:Hid (i1+gk=ks.length):=by have:=hig.out;unfold Hid;omega
   clear C1 q1 Hy hig hi1 KK TR
   go_wp2_with (first|(refine Aq rfl (.tmp 112) rfl rfl (r:=rk) E1.out ?_))
   refine HC.out.mono ?_
   rintro e w2 ⟨l2,im,v2,rfl,tr,lw⟩
   have TR2:Hid (KI w2.heap.size w2 v2 l2/\l2.length=n/\EC s.size (Gc s.data.toList (ks.take i1)) l l2):=⟨tr,by have:=im.1;have:=HN.out;omega,HX.out l2 im⟩
   have L2:=hid (on LB.out lw)
   have P2:=hid (PB.out.below lw)
   clear tr lw im
   go_wp2_with fail
   go_roundg gk
   case measure=>omega
   case rel=>exact⟨i1,v2,l2,rfl,by first|rfl|exact congrArg (Value.int .i64) DT.out,IY,TR2,L2,P2⟩
set_option maxHeartbeats 8000000 in
theorem fq (hs:s.size<=500) {t:ByteArray} {ks:List Piece} {m tp:Int} (IH: ∀i (hi:i<ks.length),Ho s ks[i]):Ho s (.mk 8 t ks m tp):=by
 intro w r v l hp hv hl
 obtain⟨A,c,Ag,rfl,k1⟩:=hp.parts
 have HI:=hid IH
 have HV:=hid hv
 have K0:=hid k1
 have HR:=hid k1.room
 obtain⟨n,hn⟩: ∃n,s.size+1=n:=⟨_,rfl⟩
 have hw1:wrap64 ((s.size:Int)+1)=(n:Int):=by have:=E_ (k:=s.size+1) (by omega);rw[hn]at this;rw[<-this,<-hn];rfl
 have HN:=hid (show n<=501/\l.length=n/\s.size+1=n from⟨by omega,by omega,by omega⟩)
 have HE:Hid (∀l',EC s.size (Hq s.data.toList ks) l l'->EC s.size (E s.data.toList (.mk 8 t ks m tp)) l l'):=fun l' h=>h.same fun q u _ _=>by
  rw[E,if_neg (by decide),if_neg (by decide),if_neg (by decide),if_neg (by decide),if_neg (by decide),if_pos rfl]
 have hI0:EC s.size (Hq s.data.toList (ks.take 0)) l ((List.range (s.size+1)).map fun _=>false):=V3 fun u _=>by
  rw[List.take_zero]
  constructor
  ·intro h;cases h
  rintro⟨q,-,-,h⟩;rw[Hq]at h;exact h.elim
 rw[hn]at hI0
 have HI0:=hid hI0
 clear hp k1 hv hn hs hl IH hI0
 go_enter Tryz.func56,Tryz.ntmps56
 go_wp2_with (first
  |(refine AV (r:=⟨8,t,A,ks.length,c,m,tp⟩) rfl (.tmp 0) rfl rfl ?_;intro w1 b1 e1 p1 l1 z1;have a0:=p1.c0;have P1:=hid p1;have L1:=hid l1;clear e1 p1 l1 z1;simp only at a0)
  |(refine FR (n:=n) rfl (.tmp 16) (.tmp 16) rfl (congrArg (Value.int .i64) hw1) (congrArg (Value.int .i64) hw1) (by have:=HN.out;omega) ?_;intro w2 bm e2 p2 l2 z2;have L2:=hid (on L1.out l2);have B2:=hid (P1.out.below l2);have a2:=(P1.out.below l2).c0;have P2:=hid p2;clear e2 p2 l2 z2 a0;simp only at a2))
 clear P1 L1 a2 hw1
 go_loopg [7,13] ks.length (fun gk s7 s13 wr=> ∃(i:Nat) (vi:Value) (li:List Bool),vi=s7/\s13= .int .i64 i/\Hid (i+gk=ks.length)/\Hid (KI wr.heap.size wr vi li/\li.length=n/\EC s.size (Hq s.data.toList (ks.take i)) l li)/\Hid (Below w.heap.size w wr)/\Hid (Ad wr b1 ⟨8,t,A,ks.length,c,m,tp⟩))
 case atStart=>exact⟨0,_,_,rfl,rfl,by unfold Hid;omega,⟨P2.out.YK (by have:=HN.out;omega),by simp,HI0.out⟩,L2,B2⟩
 case round=>
  clear L2 B2 P2 HI0
  obtain⟨i,vi,li,rfl,rfl,hig,TR,LB,PB⟩:=hrel
  have a2:=PB.out.c2
  simp only at a2
  have hn1:=HR.out.1
  have hn2:=HR.out.2
  cases gk with
  |zero=>
   have hi:i=ks.length:=by have:=hig.out;omega
   subst hi
   have ti: ¬(ks.length:Int)<(ks.length:Int):=by omega
   go_wp2_with fail
   go_ret
   have h3:=TR.out.2.2
   rw[List.take_length]at h3
   exact⟨_,HE.out _ h3,_,rfl,TR.out.1,LB.out⟩
  |succ gk=>
   have hi:i<ks.length:=by have:=hig.out;omega
   have ti:(i:Int)<(ks.length:Int):=by omega
   obtain⟨i1,hi1⟩: ∃i1,i+1=i1:=⟨_,rfl⟩
   have DT:Hid ((i:Int)+1=(i1:Int)):=by unfold Hid;omega
   have KK:=K0.out.below LB.out
   obtain⟨g1,o1,rfl,C1⟩:=KK.at_ (Nat.lt_of_le_of_lt (Nat.zero_le _) hi)
   obtain⟨hr1,q1⟩:=KK.kid hi
   have E1:=hid (C1 i hr1)
   obtain⟨rk,Hy⟩: ∃rk,Ag[i]'hr1=rk:=⟨_,rfl⟩
   rw[Hy]at E1 q1
   have HC:=hid (HI.out i hi _ rk v l q1 ((HV.out.below LB.out).more LB.out.size) (by have:=HN.out;omega))
   have HX:Hid (∀l2,EC s.size (E s.data.toList (ks[i]'hi)) l l2->EC s.size (Hq s.data.toList (ks.take i1)) l (O9 li l2)):=fun l2 h2=>by
    rw[<-hi1]
    exact BR.EC.alt hi TR.out.2.2 h2
   have IY:Hid (i1+gk=ks.length):=by have:=hig.out;unfold Hid;omega
   clear C1 q1 Hy hig hi1 KK
   go_wp2_with (first|(refine Aq rfl (.tmp 131) rfl rfl (r:=rk) E1.out ?_))
   refine HC.out.mono ?_
   rintro e w2 ⟨l2,im,v2,rfl,tr,lw⟩
   have L2:=hid (on LB.out lw)
   have P2:=hid (PB.out.below lw)
   have HB:=hid (SI ((TR.out.1.below lw).more lw.size) tr (by have:=TR.out.2.1;have:=im.1;have:=HN.out;omega) (by have:=TR.out.2.1;have:=HN.out;omega))
   have vM:=hid (HX.out l2 im)
   have HOL:Hid ((O9 li l2).length=n):=by unfold Hid;rw[BR.NL];exact TR.out.2.1
   clear tr lw im TR
   go_wp2_with fail
   refine HB.out.mono ?_
   rintro e w3 ⟨v3,rfl,tr,lw⟩
   have TR3:Hid (KI w3.heap.size w3 v3 (O9 li l2)/\(O9 li l2).length=n/\EC s.size (Hq s.data.toList (ks.take i1)) l (O9 li l2)):=⟨tr,HOL.out,vM.out⟩
   have L3:=hid (on L2.out lw)
   have P3:=hid (P2.out.below lw)
   clear tr lw
   go_wp2_with fail
   go_roundg gk
   case measure=>omega
   case rel=>exact⟨i1,v3,_,rfl,by first|rfl|exact congrArg (Value.int .i64) DT.out,IY,TR3,L3,P3⟩
end
end Fg
namespace Fg
open Strs Al
open Cj (Piece leaf)
open BR (at_ O9 places EC Jb E Pow qW PY many)
open W14 (Raw Ak Co Be Ad AV AU Aq AZ Bi AO)
open EH (Ig Ct)
open Kit (below_draws on)
theorem wE {w:World} {A:Option Addr} {c:Nat} {Ag:List Raw} {p:Piece} (K:W14.Kids w A c Ag [p]): ∃g o rk,A=some ⟨g,o,none⟩/\g<w.heap.size/\Be w rk p/\ ∀j,j<5->w.cell? ⟨g,o+j,none⟩=(Co rk)[j]? :=by
 obtain⟨g,o,hA,C1⟩:=K.at_ (Nat.lt_succ_self 0)
 obtain⟨hr,q⟩:=K.kid (Nat.lt_succ_self 0)
 refine⟨g,o,Ag[0],hA,K.2.1 _ hA (Nat.lt_of_le_of_lt (Nat.zero_le _) hr),q,fun j hj=> ?_⟩
 have:=C1 0 hr j hj
 rwa[show o+0*5+j=o+j by omega]at this
def Rw (n:Nat) (R:Nat->Nat->Prop) (l:List Bool) (w:World) (v:Value) (k:List Bool):Prop:=KI w.heap.size w v k/\k.length=n+1/\EC n R l k
theorem Rw.below {n:Nat} {R:Nat->Nat->Prop} {l k:List Bool} {w w':World} {v:Value} (h:Rw n R l w v k) (hb:Below w.heap.size w w'):Rw n R l w' v k:=⟨(h.1.below hb).more hb.size,h.2⟩
section
variable {s:ByteArray}
set_option maxHeartbeats 16000000 in
theorem aO (hs:s.size<=500) {t:ByteArray} {p:Piece} {M:Nat} {tp:Int} (hM:M<=100) (ht:(M:Int)<=tp/\tp<=100) (IH:Ho s p) (hg:Bv.Good p) {w:World} {r:Raw} {v:Value} {l:List Bool} (hp:Be w r (.mk 9 t [p] (M:Int) tp)) (hv:KI w.heap.size w v l) (hl:l.length=s.size+1):
    Calls Tryz.prog 87 #[.agg (Ak r),.string s,v] w fun e w'=> ∃l',EC s.size (qW (E s.data.toList p) M tp) l l'/\EE w l' e w':=by
 obtain⟨A,c,Ag,rfl,k1⟩:=hp.parts
 have hsl:s.data.toList.length=s.size:=(Lib.size_eq s).symm
 have hin:=BR.qA (s:=s.data.toList) hg
 rw[hsl]at hin
 obtain⟨g1,o1,rk,rfl,hg1,q0,C0⟩:=wE k1
 have HR:Hid (1<=c/\c<=9223372036854775807):=k1.room
 have Ye:=hid hin
 have HK:Hid (∀w',Below w.heap.size w w'-> ∀j,j<5->w'.cell? ⟨g1,o1+j,none⟩=(Co rk)[j]?):=fun w' hb j hj=>(AO (hb.block g1 hg1)).trans (C0 j hj)
 obtain⟨R,hR⟩: ∃R,E s.data.toList p=R:=⟨_,rfl⟩
 have HC:Hid (∀(w':World) (vi:Value) (R':Nat->Nat->Prop) (li:List Bool),Below w.heap.size w w'->Rw s.size R' l w' vi li->Calls Tryz.prog 56 #[.agg (Ak rk),.string s,vi] w' fun e w''=> ∃l',EC s.size R li l'/\EE w' l' e w''):=fun w' vi R' li hb hi=>by
  rw[<-hR]
  exact IH w' rk vi li (q0.below hb) hi.1 hi.2.1
 rw[hR]at Ye ⊢
 have R0:Hid (Rw s.size (Pow R 0) l w v l):=⟨hv,hl,(Jb hl).same fun q t _ _=>Iff.rfl⟩
 have AAD: ¬tp<0:=by omega
 obtain⟨K,hK⟩: ∃K:Nat,tp-(M:Int)=(K:Int):=⟨(tp-M).toNat,by omega⟩
 have xQ:Hid (K<=100):=by unfold Hid;omega
 have hwk:wrap64 (tp-(M:Int))=(K:Int):=by unfold wrap64;omega
 have HKK:=hid hK
 clear hK ht
 have HM:=hid hM
 have HS:=hid hs
 simp only[List.length_singleton]
 clear hp k1 hv hs hl hsl hin q0 C0 hg1 hR IH hg hM
 go_enter Tryz.func87,Tryz.ntmps87
 go_wp2_with (first
  |(refine AV (r:=⟨9,t,some ⟨g1,o1,none⟩,1,c,(M:Int),tp⟩) rfl (.tmp 0) rfl rfl ?_;intro w1 b1 e1 p1 l1 z1;have P1:=hid p1;have L1:=hid l1;clear e1 p1 l1 z1))
 have R1:=hid (R0.out.below L1.out)
 clear R0
 go_loopg [7,8] M (fun gk s7 s8 wr=> ∃(i:Nat) (vi:Value) (li:List Bool),vi=s7/\s8= .int .i64 i/\Hid (i+gk=M)/\Hid (Rw s.size (Pow R i) l wr vi li)/\Hid (Below w.heap.size w wr)/\Hid (Ad wr b1 ⟨9,t,some ⟨g1,o1,none⟩,1,c,(M:Int),tp⟩))
 case atStart=>exact⟨0,v,l,rfl,rfl,by unfold Hid;omega,R1,L1,P1⟩
 case round=>
  clear R1 L1 P1
  obtain⟨i,vi,li,rfl,rfl,hig,RW,LB,PB⟩:=hrel
  have a2:=PB.out.c2
  have a3:=PB.out.c3
  simp only at a2 a3
  have hn1:=HR.out.1
  have hn2:=HR.out.2
  cases gk with
  |succ gk=>
   have hi:i<M:=by have:=hig.out;omega
   have ti:(i:Int)<(M:Int):=by omega
   obtain⟨i1,hi1⟩: ∃i1,i+1=i1:=⟨_,rfl⟩
   have DT:Hid ((i:Int)+1=(i1:Int)/\wrap64 ((i:Int)+1)=(i1:Int)):=by have:=HM.out;unfold Hid wrap64;omega
   have E1:=hid (HK.out _ LB.out)
   have qc:=hid (HC.out _ _ _ _ LB.out RW.out)
   have IY:Hid (i1+gk=M):=by have:=hig.out;unfold Hid;omega
   have HX:Hid (∀l2,EC s.size R li l2->EC s.size (Pow R i1) l l2):=fun l2 h2=>by rw[<-hi1];exact RW.out.2.2.NM h2 Ye.out
   clear hig hi1 RW hi
   go_wp2_with (first|(refine Aq rfl (.tmp 22) rfl rfl (r:=rk) E1.out ?_))
   refine qc.out.mono ?_
   rintro e w2 ⟨l2,im,v2,rfl,tr,lw⟩
   have R2:Hid (Rw s.size (Pow R i1) l w2 v2 l2):=⟨tr,im.1,HX.out l2 im⟩
   have L2:=hid (on LB.out lw)
   have P2:=hid (PB.out.below lw)
   clear tr lw im
   go_wp2_with fail
   go_roundg gk
   case measure=>omega
   case rel=>exact⟨i1,v2,l2,rfl,by first|rfl|exact congrArg (Value.int .i64) DT.out.1|exact congrArg (Value.int .i64) DT.out.2,IY,R2,L2,P2⟩
  |zero=>
   have hi:i=M:=by have:=hig.out;omega
   subst hi
   have ti: ¬(i:Int)<(i:Int):=by omega
   have a4:=PB.out.c4
   simp only at a4
   clear hig
   go_wp2_with fail
   try simp only[hwk]
   clear hwk a2 a3 a4 ti
   go_loopg [7,9,11] K (fun gk s7 s9 s11 wr=> ∃(j:Nat) (vn vo:Value) (ln lo:List Bool),vn=s7/\vo=s9/\s11= .int .i64 j/\Hid (j+gk=K)/\Hid (Rw s.size (Pow R (i+j)) l wr vn ln)/\Hid (Rw s.size (PY R i j) l wr vo lo)/\Hid (True)/\Hid (Below w.heap.size w wr)/\Hid (Ad wr b1 ⟨9,t,some ⟨g1,o1,none⟩,1,c,(i:Int),tp⟩))
   case atStart=>exact⟨0,vi,vi,li,li,rfl,rfl,rfl,by unfold Hid;omega,RW,⟨RW.out.1,RW.out.2.1,RW.out.2.2.same fun q u _ _=>BR.Uq.symm⟩,by unfold Hid;first|trivial|exact Nat.zero_le _,LB,PB⟩
   case round=>
    clear RW LB PB
    obtain⟨j,vn,vo,ln,lo,rfl,rfl,rfl,TE,RN,RO,CN,LB,PB⟩:=hrel
    have a2:=PB.out.c2
    have a4:=PB.out.c4
    simp only at a2 a4
    cases gk with
    |zero=>
     have hj:j=K:=by have:=TE.out;omega
     subst hj
     have tj: ¬(j:Int)<(j:Int):=by omega
     go_wp2_with fail
     go_ret
     refine⟨lo,?_,_,rfl,RO.out.1,LB.out⟩
     refine RO.out.2.2.same fun q u _ _=>⟨?_,?_⟩
     ·rintro⟨k,hk,h⟩
      exact⟨i+k,Nat.le_add_right _ _,Or.inr (by have:=HKK.out;omega),h⟩
     rintro⟨k,hk,hk2,h⟩
     refine⟨k-i,by have:=HKK.out;omega,?_⟩
     rw[show i+(k-i)=k by omega]
     exact h
    |succ gk=>
     have hj:j<K:=by have:=TE.out;omega
     have tj:(j:Int)<(K:Int):=by omega
     obtain⟨j1,hj1⟩: ∃j1,j+1=j1:=⟨_,rfl⟩
     have Jf:Hid ((j:Int)+1=(j1:Int)/\wrap64 ((j:Int)+1)=(j1:Int)):=by have:=xQ.out;unfold Hid wrap64;omega
     have E1:=hid (HK.out _ LB.out)
     have qc:=hid (HC.out _ _ _ _ LB.out RN.out)
     have xR:Hid (j1+gk=K):=by have:=TE.out;unfold Hid;omega
     have HX:Hid (∀l2,EC s.size R ln l2->EC s.size (Pow R (i+(j+1))) l l2):=fun l2 h2=>RN.out.2.2.NM h2 Ye.out
     have qf:=hid hj1
     clear TE hj1 RN hj
     go_wp2_with (first|(refine Aq rfl (.tmp 46) rfl rfl (r:=rk) E1.out ?_))
     refine qc.out.mono ?_
     rintro e w2 ⟨l2,im,v2,rfl,tr,lw⟩
     have R2:Hid (Rw s.size (Pow R (i+(j+1))) l w2 v2 l2):=⟨tr,im.1,HX.out l2 im⟩
     have O2:=hid (RO.out.below lw)
     have L2:=hid (on LB.out lw)
     have P2:=hid (PB.out.below lw)
     have HB:=hid (SI O2.out.1 R2.out.1 (O2.out.2.1.trans R2.out.2.1.symm) (by have:=O2.out.2.1;have:=HS.out;omega))
     clear tr lw im RO LB PB a2 a4
     go_wp2_with fail
     refine HB.out.mono ?_
     rintro e w3 ⟨v3,rfl,tr,lw⟩
     obtain⟨lm,hlm⟩: ∃lm,O9 lo l2=lm:=⟨_,rfl⟩
     have xS:=hid hlm
     have hlen:lm.length=s.size+1:=by rw[<-hlm,BR.NL];exact O2.out.2.1
     have HLEN:=hid hlen
     rw[hlm]at tr
     have R3:=hid (R2.out.below lw)
     have O3:=hid (O2.out.below lw)
     have M3:Hid (Rw s.size (PY R i (j+1)) l w3 v3 lm):=⟨tr,hlen,by rw[<-hlm];exact O2.out.2.2.Kg R2.out.2.2⟩
     have L3:=hid (on L2.out lw)
     have P3:=hid (P2.out.below lw)
     have VT:=hid (Fw tr (by have:=HS.out;omega))
     clear tr lw hlm hlen HB
     go_wp2_with fail
     refine VT.out.mono ?_
     rintro e w4 ⟨v4,rfl,ow,lw⟩
     have N4:=hid (Al.Bw Ct rfl ow)
     have R4:=hid (R3.out.below lw)
     have O4:=hid (O3.out.below lw)
     have M4:=hid (M3.out.below lw)
     have L4:=hid (on L3.out lw)
     have P4:=hid (P3.out.below lw)
     have wF:=hid (Fw O4.out.1 (by have:=O4.out.2.1;have:=HS.out;omega))
     clear ow lw VT R3 M3 L3 P3
     go_wp2_with fail
     refine wF.out.mono ?_
     rintro e w5 ⟨v5,rfl,ow,lw⟩
     have N5:=hid (Al.Bw Ct rfl ow)
     have R5:=hid (R4.out.below lw)
     have O5:=hid (O4.out.below lw)
     have M5:=hid (M4.out.below lw)
     have L5:=hid (on L4.out lw)
     have P5:=hid (P4.out.below lw)
     have HIT:=hid (Xh (N4.out.below lw) N5.out)
     clear ow lw wF R4 M4 L4 P4 N4 N5
     go_wp2_with fail
     refine HIT.out.mono ?_
     rintro e w6 ⟨rfl,lw⟩
     have R6:=hid (R5.out.below lw)
     have O6:=hid (O5.out.below lw)
     have M6:=hid (M5.out.below lw)
     have L6:=hid (on L5.out lw)
     have P6:=hid (P5.out.below lw)
     have a4:=P6.out.c4
     simp only at a4
     clear lw HIT R5 O5 M5 L5 P5
     have PE:=hid (fun h:places lm=places lo=>BR.Ur (HLEN.out.trans O2.out.2.1.symm) h)
     by_cases hpe:places lm=places lo
     ·simp only[decide_eq_true hpe]
      have wG:=hid hpe
      clear hpe
      go_wp2_with fail
      go_roundg gk
      case measure=>omega
      case rel=>exact⟨j1,v2,v3,l2,lm,rfl,rfl,by first|rfl|exact congrArg (Value.int .i64) Jf.out.1|exact congrArg (Value.int .i64) Jf.out.2,xR,by rw[<-qf.out];exact R6,by rw[<-qf.out];exact M6,trivial,L6,P6⟩
     simp only[decide_eq_false hpe]
     have wG:=hid hpe
     clear hpe
     go_wp2_with fail
     go_roundg gk
     case measure=>omega
     case rel=>exact⟨j1,v2,v3,l2,lm,rfl,rfl,by first|rfl|exact congrArg (Value.int .i64) Jf.out.1|exact congrArg (Value.int .i64) Jf.out.2,xR,by rw[<-qf.out];exact R6,by rw[<-qf.out];exact M6,trivial,L6,P6⟩
set_option maxHeartbeats 16000000 in
theorem YS (hs:s.size<=500) {t:ByteArray} {p:Piece} {M:Nat} (hM:M<=100) (IH:Ho s p) (hg:Bv.Good p) {w:World} {r:Raw} {v:Value} {l:List Bool} (hp:Be w r (.mk 9 t [p] (M:Int) (-1))) (hv:KI w.heap.size w v l) (hl:l.length=s.size+1):
    Calls Tryz.prog 87 #[.agg (Ak r),.string s,v] w fun e w'=> ∃l',EC s.size (qW (E s.data.toList p) M (-1)) l l'/\EE w l' e w':=by
 obtain⟨A,c,Ag,rfl,k1⟩:=hp.parts
 have hsl:s.data.toList.length=s.size:=(Lib.size_eq s).symm
 have hin:=BR.qA (s:=s.data.toList) hg
 rw[hsl]at hin
 obtain⟨g1,o1,rk,rfl,hg1,q0,C0⟩:=wE k1
 have HR:Hid (1<=c/\c<=9223372036854775807):=k1.room
 have Ye:=hid hin
 have HK:Hid (∀w',Below w.heap.size w w'-> ∀j,j<5->w'.cell? ⟨g1,o1+j,none⟩=(Co rk)[j]?):=fun w' hb j hj=>(AO (hb.block g1 hg1)).trans (C0 j hj)
 obtain⟨R,hR⟩: ∃R,E s.data.toList p=R:=⟨_,rfl⟩
 have HC:Hid (∀(w':World) (vi:Value) (R':Nat->Nat->Prop) (li:List Bool),Below w.heap.size w w'->Rw s.size R' l w' vi li->Calls Tryz.prog 56 #[.agg (Ak rk),.string s,vi] w' fun e w''=> ∃l',EC s.size R li l'/\EE w' l' e w''):=fun w' vi R' li hb hi=>by
  rw[<-hR]
  exact IH w' rk vi li (q0.below hb) hi.1 hi.2.1
 rw[hR]at Ye ⊢
 have R0:Hid (Rw s.size (Pow R 0) l w v l):=⟨hv,hl,(Jb hl).same fun q t _ _=>Iff.rfl⟩
 obtain⟨K,hK⟩: ∃K,s.size+1=K:=⟨_,rfl⟩
 have xQ:Hid (K<=501/\s.size+1=K):=⟨by omega,hK⟩
 have hwk:wrap64 ((s.size:Int)+1)=(K:Int):=by unfold wrap64;omega
 clear hK
 have HM:=hid hM
 have HS:=hid hs
 simp only[List.length_singleton]
 clear hp k1 hv hs hl hsl hin q0 C0 hg1 hR IH hg hM
 go_enter Tryz.func87,Tryz.ntmps87
 go_wp2_with (first
  |(refine AV (r:=⟨9,t,some ⟨g1,o1,none⟩,1,c,(M:Int),(-1)⟩) rfl (.tmp 0) rfl rfl ?_;intro w1 b1 e1 p1 l1 z1;have P1:=hid p1;have L1:=hid l1;clear e1 p1 l1 z1))
 have R1:=hid (R0.out.below L1.out)
 clear R0
 go_loopg [7,8] M (fun gk s7 s8 wr=> ∃(i:Nat) (vi:Value) (li:List Bool),vi=s7/\s8= .int .i64 i/\Hid (i+gk=M)/\Hid (Rw s.size (Pow R i) l wr vi li)/\Hid (Below w.heap.size w wr)/\Hid (Ad wr b1 ⟨9,t,some ⟨g1,o1,none⟩,1,c,(M:Int),(-1)⟩))
 case atStart=>exact⟨0,v,l,rfl,rfl,by unfold Hid;omega,R1,L1,P1⟩
 case round=>
  clear R1 L1 P1
  obtain⟨i,vi,li,rfl,rfl,hig,RW,LB,PB⟩:=hrel
  have a2:=PB.out.c2
  have a3:=PB.out.c3
  simp only at a2 a3
  have hn1:=HR.out.1
  have hn2:=HR.out.2
  cases gk with
  |succ gk=>
   have hi:i<M:=by have:=hig.out;omega
   have ti:(i:Int)<(M:Int):=by omega
   obtain⟨i1,hi1⟩: ∃i1,i+1=i1:=⟨_,rfl⟩
   have DT:Hid ((i:Int)+1=(i1:Int)/\wrap64 ((i:Int)+1)=(i1:Int)):=by have:=HM.out;unfold Hid wrap64;omega
   have E1:=hid (HK.out _ LB.out)
   have qc:=hid (HC.out _ _ _ _ LB.out RW.out)
   have IY:Hid (i1+gk=M):=by have:=hig.out;unfold Hid;omega
   have HX:Hid (∀l2,EC s.size R li l2->EC s.size (Pow R i1) l l2):=fun l2 h2=>by rw[<-hi1];exact RW.out.2.2.NM h2 Ye.out
   clear hig hi1 RW hi
   go_wp2_with (first|(refine Aq rfl (.tmp 22) rfl rfl (r:=rk) E1.out ?_))
   refine qc.out.mono ?_
   rintro e w2 ⟨l2,im,v2,rfl,tr,lw⟩
   have R2:Hid (Rw s.size (Pow R i1) l w2 v2 l2):=⟨tr,im.1,HX.out l2 im⟩
   have L2:=hid (on LB.out lw)
   have P2:=hid (PB.out.below lw)
   clear tr lw im
   go_wp2_with fail
   go_roundg gk
   case measure=>omega
   case rel=>exact⟨i1,v2,l2,rfl,by first|rfl|exact congrArg (Value.int .i64) DT.out.1|exact congrArg (Value.int .i64) DT.out.2,IY,R2,L2,P2⟩
  |zero=>
   have hi:i=M:=by have:=hig.out;omega
   subst hi
   have ti: ¬(i:Int)<(i:Int):=by omega
   have a4:=PB.out.c4
   simp only at a4
   clear hig
   go_wp2_with fail
   try simp only[hwk]
   clear hwk a2 a3 a4 ti
   go_loopg [7,9,11] K (fun gk s7 s9 s11 wr=> ∃(j:Nat) (vn vo:Value) (ln lo:List Bool),vn=s7/\vo=s9/\s11= .int .i64 j/\Hid (j+gk=K)/\Hid (Rw s.size (Pow R (i+j)) l wr vn ln)/\Hid (Rw s.size (PY R i j) l wr vo lo)/\Hid (j<=many lo)/\Hid (Below w.heap.size w wr)/\Hid (Ad wr b1 ⟨9,t,some ⟨g1,o1,none⟩,1,c,(i:Int),(-1)⟩))
   case atStart=>exact⟨0,vi,vi,li,li,rfl,rfl,rfl,by unfold Hid;omega,RW,⟨RW.out.1,RW.out.2.1,RW.out.2.2.same fun q u _ _=>BR.Uq.symm⟩,by unfold Hid;first|trivial|exact Nat.zero_le _,LB,PB⟩
   case round=>
    clear RW LB PB
    obtain⟨j,vn,vo,ln,lo,rfl,rfl,rfl,TE,RN,RO,CN,LB,PB⟩:=hrel
    have a2:=PB.out.c2
    have a4:=PB.out.c4
    simp only at a2 a4
    cases gk with
    |zero=>
     have hj:j=K:=by have:=TE.out;omega
     subst hj
     have tj: ¬(j:Int)<(j:Int):=by omega
     go_wp2_with fail
     go_ret
     refine⟨lo,?_,_,rfl,RO.out.1,LB.out⟩
     refine(RO.out.2.2.full (by have:=xQ.out;have:=CN.out;omega)).same fun q u _ _=>⟨?_,?_⟩
     ·rintro⟨k,h⟩;exact⟨i+k,Nat.le_add_right _ _,Or.inl rfl,h⟩
     rintro⟨k,hk,-,h⟩
     refine⟨k-i,?_⟩
     rw[show i+(k-i)=k by omega]
     exact h
    |succ gk=>
     have hj:j<K:=by have:=TE.out;omega
     have tj:(j:Int)<(K:Int):=by omega
     obtain⟨j1,hj1⟩: ∃j1,j+1=j1:=⟨_,rfl⟩
     have Jf:Hid ((j:Int)+1=(j1:Int)/\wrap64 ((j:Int)+1)=(j1:Int)):=by have:=xQ.out;unfold Hid wrap64;omega
     have E1:=hid (HK.out _ LB.out)
     have qc:=hid (HC.out _ _ _ _ LB.out RN.out)
     have xR:Hid (j1+gk=K):=by have:=TE.out;unfold Hid;omega
     have HX:Hid (∀l2,EC s.size R ln l2->EC s.size (Pow R (i+(j+1))) l l2):=fun l2 h2=>RN.out.2.2.NM h2 Ye.out
     have qf:=hid hj1
     clear TE hj1 RN hj
     go_wp2_with (first|(refine Aq rfl (.tmp 46) rfl rfl (r:=rk) E1.out ?_))
     refine qc.out.mono ?_
     rintro e w2 ⟨l2,im,v2,rfl,tr,lw⟩
     have R2:Hid (Rw s.size (Pow R (i+(j+1))) l w2 v2 l2):=⟨tr,im.1,HX.out l2 im⟩
     have O2:=hid (RO.out.below lw)
     have L2:=hid (on LB.out lw)
     have P2:=hid (PB.out.below lw)
     have HB:=hid (SI O2.out.1 R2.out.1 (O2.out.2.1.trans R2.out.2.1.symm) (by have:=O2.out.2.1;have:=HS.out;omega))
     clear tr lw im RO LB PB a2 a4
     go_wp2_with fail
     refine HB.out.mono ?_
     rintro e w3 ⟨v3,rfl,tr,lw⟩
     obtain⟨lm,hlm⟩: ∃lm,O9 lo l2=lm:=⟨_,rfl⟩
     have xS:=hid hlm
     have hlen:lm.length=s.size+1:=by rw[<-hlm,BR.NL];exact O2.out.2.1
     have HLEN:=hid hlen
     rw[hlm]at tr
     have R3:=hid (R2.out.below lw)
     have O3:=hid (O2.out.below lw)
     have M3:Hid (Rw s.size (PY R i (j+1)) l w3 v3 lm):=⟨tr,hlen,by rw[<-hlm];exact O2.out.2.2.Kg R2.out.2.2⟩
     have L3:=hid (on L2.out lw)
     have P3:=hid (P2.out.below lw)
     have VT:=hid (Fw tr (by have:=HS.out;omega))
     clear tr lw hlm hlen HB
     go_wp2_with fail
     refine VT.out.mono ?_
     rintro e w4 ⟨v4,rfl,ow,lw⟩
     have N4:=hid (Al.Bw Ct rfl ow)
     have R4:=hid (R3.out.below lw)
     have O4:=hid (O3.out.below lw)
     have M4:=hid (M3.out.below lw)
     have L4:=hid (on L3.out lw)
     have P4:=hid (P3.out.below lw)
     have wF:=hid (Fw O4.out.1 (by have:=O4.out.2.1;have:=HS.out;omega))
     clear ow lw VT R3 M3 L3 P3
     go_wp2_with fail
     refine wF.out.mono ?_
     rintro e w5 ⟨v5,rfl,ow,lw⟩
     have N5:=hid (Al.Bw Ct rfl ow)
     have R5:=hid (R4.out.below lw)
     have O5:=hid (O4.out.below lw)
     have M5:=hid (M4.out.below lw)
     have L5:=hid (on L4.out lw)
     have P5:=hid (P4.out.below lw)
     have HIT:=hid (Xh (N4.out.below lw) N5.out)
     clear ow lw wF R4 M4 L4 P4 N4 N5
     go_wp2_with fail
     refine HIT.out.mono ?_
     rintro e w6 ⟨rfl,lw⟩
     have R6:=hid (R5.out.below lw)
     have O6:=hid (O5.out.below lw)
     have M6:=hid (M5.out.below lw)
     have L6:=hid (on L5.out lw)
     have P6:=hid (P5.out.below lw)
     have a4:=P6.out.c4
     simp only at a4
     clear lw HIT R5 O5 M5 L5 P5
     have PE:=hid (fun h:places lm=places lo=>BR.Ur (HLEN.out.trans O2.out.2.1.symm) h)
     by_cases hpe:places lm=places lo
     ·simp only[decide_eq_true hpe]
      have wG:=hid hpe
      clear hpe
      go_wp2_with fail
      go_ret
      refine⟨lo,?_,_,rfl,O6.out.1,L6.out⟩
      refine(O2.out.2.2.still R2.out.2.2 (by rw[xS.out];exact PE.out wG.out) Ye.out).same fun q u _ _=>⟨?_,?_⟩
      ·rintro⟨k,h⟩;exact⟨i+k,Nat.le_add_right _ _,Or.inl rfl,h⟩
      rintro⟨k,hk,-,h⟩
      refine⟨k-i,?_⟩
      rw[show i+(k-i)=k by omega]
      exact h
     simp only[decide_eq_false hpe]
     have wG:=hid hpe
     clear hpe
     go_wp2_with fail
     go_roundg gk
     case measure=>omega
     case rel=>exact⟨j1,v2,v3,l2,lm,rfl,rfl,by first|rfl|exact congrArg (Value.int .i64) Jf.out.1|exact congrArg (Value.int .i64) Jf.out.2,xR,by rw[<-qf.out];exact R6,by rw[<-qf.out];exact M6,(by unfold Hid;have h1:=BR.p_ (l:=lo) (k:=l2) (fun e=>wG.out (by rw[<-xS.out,e]));rw[xS.out]at h1;have:=CN.out;have:=qf.out;omega),L6,P6⟩
end
end Fg
namespace Fg
open Strs Al
open Cj (Piece leaf)
open BR (at_ O9 places EC Jb E takes)
open W14 (Raw Ak Be Ad AV AU Aq AZ Bi)
open Kit (below_draws on CG)
section
variable {s:ByteArray}
set_option maxHeartbeats 8000000 in
theorem aP (hs:s.size<=500) (t:ByteArray) (ht:t.size=1):Ho s (leaf 2 t):=by
 intro w r v l hp hv hl
 unfold leaf at hp
 obtain⟨A,c,Ag,rfl,k1⟩:=hp.parts
 have hsl:s.data.toList.length=s.size:=(Lib.size_eq s).symm
 have hI:=SV (S:=s.data.toList) (k:=2) (by omega) t l
 rw[hsl]at hI
 have HI:=hid hI
 have HV:=hid hv
 have HT:Hid (∀i (h:i<s.size),tk s.data.toList 2 t i=takes ⟨1,t,0,0⟩ s[i]):=fun i h=>by
  have hc:s.data.toList[i]? =some s[i]:=List.getElem?_eq_getElem (by rw[hsl];exact h)
  unfold tk
  rw[hc]
  rfl
 obtain⟨n,hn⟩: ∃n,s.size+1=n:=⟨_,rfl⟩
 have hw1:wrap64 ((s.size:Int)+1)=(n:Int):=by have:=E_ (k:=s.size+1) (by omega);rw[hn]at this;rw[<-this,<-hn];rfl
 have HN:=hid (show n<=501/\l.length=n/\s.size+1=n from⟨by omega,by omega,by omega⟩)
 rw[hn]at HI
 obtain⟨A',c',rfl,-,-⟩:=hv.form
 obtain⟨b3,o3,rfl,-,-⟩:=EA hv (k:=0) (by omega)
 have h0:0<t.size:=by omega
 have t0:(0:Int)<(t.size:Int):=by omega
 have HT1:=hid ht
 clear ht
 clear hp k1 hI hv hn hs hl hsl
 simp only[List.length_nil]
 go_enter Tryz.func56,Tryz.ntmps56
 go_wp2_with (first
  |(refine AV (r:=⟨2,t,A,0,c,0,0⟩) rfl (.tmp 0) rfl rfl ?_;intro w1 b1 e1 p1 l1 z1;have a0:=p1.c0;have P1:=hid p1;have L1:=hid l1;have E1:Hid (b1<w1.heap.size):=p1.lt;clear e1 p1 l1 z1;simp only at a0)
  |(refine FR (n:=n) rfl (.tmp 16) (.tmp 16) rfl (congrArg (Value.int .i64) hw1) (congrArg (Value.int .i64) hw1) (by have:=HN.out;omega) ?_;intro w2 bm e2 p2 l2 z2;have L2:=hid (on L1.out l2);have B2:=hid (P1.out.below l2);have a2:=(P1.out.below l2).c0;have P2:=hid p2;have E2:Hid (w.heap.size<=bm/\b1≠bm):=(by unfold Hid;have:=L1.out.size;have:=E1.out;omega);clear e2 p2 l2 z2 a0;simp only at a2))
 have P3:Hid (Bits w2 bm n (seen s.data.toList 2 t l 0)):=P2.out.is fun j _=>by
  unfold seen
  by_cases e:1<=j<;>by_cases e2:j<=0<;>simp[e,e2]<;>omega
 clear P2 P1 L1 E1 a2 hw1
 go_loopg [8] s.size (fun gk s8 wr=> ∃i:Nat,s8= .int .i64 i/\Hid (i+gk=s.size)/\Hid (Bits wr bm n (seen s.data.toList 2 t l i))/\Hid (Below w.heap.size w wr)/\Hid (Ad wr b1 ⟨2,t,A,0,c,0,0⟩))
 case atStart=>exact⟨0,rfl,by unfold Hid;omega,P3,L2,B2⟩
 case round=>
  clear P3 L2 B2
  obtain⟨i,rfl,hig,BT,LB,PB⟩:=hrel
  cases gk with
  |zero=>
   have hi:i=s.size:=by have:=hig.out;omega
   subst hi
   have ti: ¬(s.size:Int)<(s.size:Int):=by omega
   go_wp2_with fail
   go_ret
   exact⟨_,HI.out,_,rfl,BT.out.YK (by have:=HN.out;omega),LB.out⟩
  |succ gk=>
   have hi:i<s.size:=by have:=hig.out;omega
   have ti:(i:Int)<(s.size:Int):=by omega
   obtain⟨i1,hi1⟩: ∃i1,i+1=i1:=⟨_,rfl⟩
   have DT:wrap64 ((i:Int)+1)=(i1:Int):=by have:=E_ (k:=i+1) (by have:=HN.out;omega);rw[hi1]at this;rw[<-this,<-hi1];rfl
   have tl:(i:Int)<(l.length:Int):=by have:=HN.out;omega
   have tn:(i1:Int)<(n:Int):=by have:=HN.out;omega
   obtain⟨b4,o4,e4,-,x0⟩:=EA (HV.out.below LB.out) (k:=i) (by have:=HN.out;omega)
   cases e4
   have f0:=BT.out.free i1
   have d0:=BT.out.cell (i:=i1) (by have:=HN.out;omega)
   have a0:=PB.out.c0
   have a1:=PB.out.c1
   simp only at a0 a1
   obtain⟨x,hx⟩: ∃x,at_ l i=x:=⟨_,rfl⟩
   obtain⟨y,hy⟩: ∃y,tk s.data.toList 2 t i=y:=⟨_,rfl⟩
   have BN: ∀(q:Nat) (z:Bool),z=(x&&y)->Hid (Bits ((wr.drewN q).setCell ⟨bm,i1,none⟩ (.bool z)) bm n (seen s.data.toList 2 t l i1)):=fun q z hz=>(Bits.put (w:=wr.drewN q) BT.out z).is fun j _=>by
    rw[<-hi1,OO,hx,hy,hz]
   have LN: ∀(q:Nat) (z:Bool),Hid (Below w.heap.size w ((wr.drewN q).setCell ⟨bm,i1,none⟩ (.bool z))):=fun q z=>(on LB.out (below_draws wr q)).setCell E2.out.1 _
   have PN: ∀(q:Nat) (z:Bool),Hid (Ad ((wr.drewN q).setCell ⟨bm,i1,none⟩ (.bool z)) b1 ⟨2,t,A,0,c,0,0⟩):=fun q z=>(heap_setCell_other (wr.drewN q) _ b1 _ fun e=>E2.out.2 e).trans PB.out
   rw[hx]at x0
   have hty:=hy
   rw[HT.out i hi]at hty
   have IY:Hid (i1+gk=s.size):=by have:=hig.out;unfold Hid;omega
   have hwc:IntKind.i64.wrap (s[i].toNat:Int)=(s[i].toNat:Int):=by rw[IntKind.wrap_i64];have:=s[i].toNat_lt;omega
   clear hx hy hi1 hig BT LB PB
   have tc:((t[0].toNat:Int)==(s[i].toNat:Int))=y:=by
    rw[<-hty]
    unfold takes
    rw[if_pos rfl,Kit.Bh h0,CG]
    simp
   clear hty
   cases y with
   |true=>
    go_wp2_with fail
    go_quiet (fail)
    cases x with
    |true=>
     have SL:=fun q=>BN q true (by simp)
     have SN:=fun q=>LN q true
     have V4:=fun q=>PN q true
     clear BN LN PN
     go_wp2_with fail
     go_roundg gk
     case measure=>omega
     case rel=>exact⟨i1,by first|rfl|exact congrArg (Value.int .i64) DT,IY,SL _,SN _,V4 _⟩
    |false=>
     have SL:=fun q=>BN q false (by simp)
     have SN:=fun q=>LN q false
     have V4:=fun q=>PN q false
     clear BN LN PN
     go_wp2_with fail
     go_roundg gk
     case measure=>omega
     case rel=>exact⟨i1,by first|rfl|exact congrArg (Value.int .i64) DT,IY,SL _,SN _,V4 _⟩
   |false=>
    go_wp2_with fail
    go_quiet (fail)
    cases x with
    |true=>
     have SL:=fun q=>BN q false (by simp)
     have SN:=fun q=>LN q false
     have V4:=fun q=>PN q false
     clear BN LN PN
     go_wp2_with fail
     go_roundg gk
     case measure=>omega
     case rel=>exact⟨i1,by first|rfl|exact congrArg (Value.int .i64) DT,IY,SL _,SN _,V4 _⟩
    |false=>
     have SL:=fun q=>BN q false (by simp)
     have SN:=fun q=>LN q false
     have V4:=fun q=>PN q false
     clear BN LN PN
     go_wp2_with fail
     go_roundg gk
     case measure=>omega
     case rel=>exact⟨i1,by first|rfl|exact congrArg (Value.int .i64) DT,IY,SL _,SN _,V4 _⟩
set_option maxHeartbeats 8000000 in
theorem fu (hs:s.size<=500) (t:ByteArray):Ho s (leaf 3 t):=by
 intro w r v l hp hv hl
 unfold leaf at hp
 obtain⟨A,c,Ag,rfl,k1⟩:=hp.parts
 have hsl:s.data.toList.length=s.size:=(Lib.size_eq s).symm
 have hI:=SV (S:=s.data.toList) (k:=3) (by omega) t l
 rw[hsl]at hI
 have HI:=hid hI
 have HV:=hid hv
 have HT:Hid (∀i (h:i<s.size),tk s.data.toList 3 t i=takes ⟨2,t,0,0⟩ s[i]):=fun i h=>by
  have hc:s.data.toList[i]? =some s[i]:=List.getElem?_eq_getElem (by rw[hsl];exact h)
  unfold tk
  rw[hc]
  rfl
 obtain⟨n,hn⟩: ∃n,s.size+1=n:=⟨_,rfl⟩
 have hw1:wrap64 ((s.size:Int)+1)=(n:Int):=by have:=E_ (k:=s.size+1) (by omega);rw[hn]at this;rw[<-this,<-hn];rfl
 have HN:=hid (show n<=501/\l.length=n/\s.size+1=n from⟨by omega,by omega,by omega⟩)
 rw[hn]at HI
 obtain⟨A',c',rfl,-,-⟩:=hv.form
 obtain⟨b3,o3,rfl,-,-⟩:=EA hv (k:=0) (by omega)
 clear hp k1 hI hv hn hs hl hsl
 simp only[List.length_nil]
 go_enter Tryz.func56,Tryz.ntmps56
 go_wp2_with (first
  |(refine AV (r:=⟨3,t,A,0,c,0,0⟩) rfl (.tmp 0) rfl rfl ?_;intro w1 b1 e1 p1 l1 z1;have a0:=p1.c0;have P1:=hid p1;have L1:=hid l1;have E1:Hid (b1<w1.heap.size):=p1.lt;clear e1 p1 l1 z1;simp only at a0)
  |(refine FR (n:=n) rfl (.tmp 16) (.tmp 16) rfl (congrArg (Value.int .i64) hw1) (congrArg (Value.int .i64) hw1) (by have:=HN.out;omega) ?_;intro w2 bm e2 p2 l2 z2;have L2:=hid (on L1.out l2);have B2:=hid (P1.out.below l2);have a2:=(P1.out.below l2).c0;have P2:=hid p2;have E2:Hid (w.heap.size<=bm/\b1≠bm):=(by unfold Hid;have:=L1.out.size;have:=E1.out;omega);clear e2 p2 l2 z2 a0;simp only at a2))
 have P3:Hid (Bits w2 bm n (seen s.data.toList 3 t l 0)):=P2.out.is fun j _=>by
  unfold seen
  by_cases e:1<=j<;>by_cases e2:j<=0<;>simp[e,e2]<;>omega
 clear P2 P1 L1 E1 a2 hw1
 go_loopg [8] s.size (fun gk s8 wr=> ∃i:Nat,s8= .int .i64 i/\Hid (i+gk=s.size)/\Hid (Bits wr bm n (seen s.data.toList 3 t l i))/\Hid (Below w.heap.size w wr)/\Hid (Ad wr b1 ⟨3,t,A,0,c,0,0⟩))
 case atStart=>exact⟨0,rfl,by unfold Hid;omega,P3,L2,B2⟩
 case round=>
  clear P3 L2 B2
  obtain⟨i,rfl,hig,BT,LB,PB⟩:=hrel
  cases gk with
  |zero=>
   have hi:i=s.size:=by have:=hig.out;omega
   subst hi
   have ti: ¬(s.size:Int)<(s.size:Int):=by omega
   go_wp2_with fail
   go_ret
   exact⟨_,HI.out,_,rfl,BT.out.YK (by have:=HN.out;omega),LB.out⟩
  |succ gk=>
   have hi:i<s.size:=by have:=hig.out;omega
   have ti:(i:Int)<(s.size:Int):=by omega
   obtain⟨i1,hi1⟩: ∃i1,i+1=i1:=⟨_,rfl⟩
   have DT:wrap64 ((i:Int)+1)=(i1:Int):=by have:=E_ (k:=i+1) (by have:=HN.out;omega);rw[hi1]at this;rw[<-this,<-hi1];rfl
   have tl:(i:Int)<(l.length:Int):=by have:=HN.out;omega
   have tn:(i1:Int)<(n:Int):=by have:=HN.out;omega
   obtain⟨b4,o4,e4,-,x0⟩:=EA (HV.out.below LB.out) (k:=i) (by have:=HN.out;omega)
   cases e4
   have f0:=BT.out.free i1
   have d0:=BT.out.cell (i:=i1) (by have:=HN.out;omega)
   have a0:=PB.out.c0
   have a1:=PB.out.c1
   simp only at a0 a1
   obtain⟨x,hx⟩: ∃x,at_ l i=x:=⟨_,rfl⟩
   obtain⟨y,hy⟩: ∃y,tk s.data.toList 3 t i=y:=⟨_,rfl⟩
   have BN: ∀(q:Nat) (z:Bool),z=(x&&y)->Hid (Bits ((wr.drewN q).setCell ⟨bm,i1,none⟩ (.bool z)) bm n (seen s.data.toList 3 t l i1)):=fun q z hz=>(Bits.put (w:=wr.drewN q) BT.out z).is fun j _=>by
    rw[<-hi1,OO,hx,hy,hz]
   have LN: ∀(q:Nat) (z:Bool),Hid (Below w.heap.size w ((wr.drewN q).setCell ⟨bm,i1,none⟩ (.bool z))):=fun q z=>(on LB.out (below_draws wr q)).setCell E2.out.1 _
   have PN: ∀(q:Nat) (z:Bool),Hid (Ad ((wr.drewN q).setCell ⟨bm,i1,none⟩ (.bool z)) b1 ⟨3,t,A,0,c,0,0⟩):=fun q z=>(heap_setCell_other (wr.drewN q) _ b1 _ fun e=>E2.out.2 e).trans PB.out
   rw[hx]at x0
   have hty:=hy
   rw[HT.out i hi]at hty
   have IY:Hid (i1+gk=s.size):=by have:=hig.out;unfold Hid;omega
   have hwc:IntKind.i64.wrap (s[i].toNat:Int)=(s[i].toNat:Int):=by rw[IntKind.wrap_i64];have:=s[i].toNat_lt;omega
   clear hx hy hi1 hig BT LB PB
   have tc:((s[i].toNat:Int) !=10)=y:=by
    rw[<-hty]
    unfold takes
    rw[if_neg (show¬(2:Int)=1 by decide),if_pos rfl]
    have:=CG s[i] 10
    rw[show(((10:UInt8).toNat:Nat):Int)=10 from rfl]at this
    simp[bne,this]
   clear hty
   cases y with
   |true=>
    go_wp2_with fail
    go_quiet (fail)
    cases x with
    |true=>
     have SL:=fun q=>BN q true (by simp)
     have SN:=fun q=>LN q true
     have V4:=fun q=>PN q true
     clear BN LN PN
     go_wp2_with fail
     go_roundg gk
     case measure=>omega
     case rel=>exact⟨i1,by first|rfl|exact congrArg (Value.int .i64) DT,IY,SL _,SN _,V4 _⟩
    |false=>
     have SL:=fun q=>BN q false (by simp)
     have SN:=fun q=>LN q false
     have V4:=fun q=>PN q false
     clear BN LN PN
     go_wp2_with fail
     go_roundg gk
     case measure=>omega
     case rel=>exact⟨i1,by first|rfl|exact congrArg (Value.int .i64) DT,IY,SL _,SN _,V4 _⟩
   |false=>
    go_wp2_with fail
    go_quiet (fail)
    cases x with
    |true=>
     have SL:=fun q=>BN q false (by simp)
     have SN:=fun q=>LN q false
     have V4:=fun q=>PN q false
     clear BN LN PN
     go_wp2_with fail
     go_roundg gk
     case measure=>omega
     case rel=>exact⟨i1,by first|rfl|exact congrArg (Value.int .i64) DT,IY,SL _,SN _,V4 _⟩
    |false=>
     have SL:=fun q=>BN q false (by simp)
     have SN:=fun q=>LN q false
     have V4:=fun q=>PN q false
     clear BN LN PN
     go_wp2_with fail
     go_roundg gk
     case measure=>omega
     case rel=>exact⟨i1,by first|rfl|exact congrArg (Value.int .i64) DT,IY,SL _,SN _,V4 _⟩
set_option maxHeartbeats 8000000 in
theorem fw (hs:s.size<=500) (t:ByteArray):Ho s (leaf 4 t):=by
 intro w r v l hp hv hl
 unfold leaf at hp
 obtain⟨A,c,Ag,rfl,k1⟩:=hp.parts
 have hsl:s.data.toList.length=s.size:=(Lib.size_eq s).symm
 have hI:=SV (S:=s.data.toList) (k:=4) (by omega) t l
 rw[hsl]at hI
 have HI:=hid hI
 have HV:=hid hv
 have HT:Hid (∀i (h:i<s.size),tk s.data.toList 4 t i=takes ⟨3,t,0,0⟩ s[i]):=fun i h=>by
  have hc:s.data.toList[i]? =some s[i]:=List.getElem?_eq_getElem (by rw[hsl];exact h)
  unfold tk
  rw[hc]
  rfl
 obtain⟨n,hn⟩: ∃n,s.size+1=n:=⟨_,rfl⟩
 have hw1:wrap64 ((s.size:Int)+1)=(n:Int):=by have:=E_ (k:=s.size+1) (by omega);rw[hn]at this;rw[<-this,<-hn];rfl
 have HN:=hid (show n<=501/\l.length=n/\s.size+1=n from⟨by omega,by omega,by omega⟩)
 rw[hn]at HI
 obtain⟨A',c',rfl,-,-⟩:=hv.form
 obtain⟨b3,o3,rfl,-,-⟩:=EA hv (k:=0) (by omega)
 clear hp k1 hI hv hn hs hl hsl
 simp only[List.length_nil]
 go_enter Tryz.func56,Tryz.ntmps56
 go_wp2_with (first
  |(refine AV (r:=⟨4,t,A,0,c,0,0⟩) rfl (.tmp 0) rfl rfl ?_;intro w1 b1 e1 p1 l1 z1;have a0:=p1.c0;have P1:=hid p1;have L1:=hid l1;have E1:Hid (b1<w1.heap.size):=p1.lt;clear e1 p1 l1 z1;simp only at a0)
  |(refine FR (n:=n) rfl (.tmp 16) (.tmp 16) rfl (congrArg (Value.int .i64) hw1) (congrArg (Value.int .i64) hw1) (by have:=HN.out;omega) ?_;intro w2 bm e2 p2 l2 z2;have L2:=hid (on L1.out l2);have B2:=hid (P1.out.below l2);have a2:=(P1.out.below l2).c0;have P2:=hid p2;have E2:Hid (w.heap.size<=bm/\b1≠bm):=(by unfold Hid;have:=L1.out.size;have:=E1.out;omega);clear e2 p2 l2 z2 a0;simp only at a2))
 have P3:Hid (Bits w2 bm n (seen s.data.toList 4 t l 0)):=P2.out.is fun j _=>by
  unfold seen
  by_cases e:1<=j<;>by_cases e2:j<=0<;>simp[e,e2]<;>omega
 clear P2 P1 L1 E1 a2 hw1
 go_loopg [8] s.size (fun gk s8 wr=> ∃i:Nat,s8= .int .i64 i/\Hid (i+gk=s.size)/\Hid (Bits wr bm n (seen s.data.toList 4 t l i))/\Hid (Below w.heap.size w wr)/\Hid (Ad wr b1 ⟨4,t,A,0,c,0,0⟩))
 case atStart=>exact⟨0,rfl,by unfold Hid;omega,P3,L2,B2⟩
 case round=>
  clear P3 L2 B2
  obtain⟨i,rfl,hig,BT,LB,PB⟩:=hrel
  cases gk with
  |zero=>
   have hi:i=s.size:=by have:=hig.out;omega
   subst hi
   have ti: ¬(s.size:Int)<(s.size:Int):=by omega
   go_wp2_with fail
   go_ret
   exact⟨_,HI.out,_,rfl,BT.out.YK (by have:=HN.out;omega),LB.out⟩
  |succ gk=>
   have hi:i<s.size:=by have:=hig.out;omega
   have ti:(i:Int)<(s.size:Int):=by omega
   obtain⟨i1,hi1⟩: ∃i1,i+1=i1:=⟨_,rfl⟩
   have DT:wrap64 ((i:Int)+1)=(i1:Int):=by have:=E_ (k:=i+1) (by have:=HN.out;omega);rw[hi1]at this;rw[<-this,<-hi1];rfl
   have tl:(i:Int)<(l.length:Int):=by have:=HN.out;omega
   have tn:(i1:Int)<(n:Int):=by have:=HN.out;omega
   obtain⟨b4,o4,e4,-,x0⟩:=EA (HV.out.below LB.out) (k:=i) (by have:=HN.out;omega)
   cases e4
   have f0:=BT.out.free i1
   have d0:=BT.out.cell (i:=i1) (by have:=HN.out;omega)
   have a0:=PB.out.c0
   have a1:=PB.out.c1
   simp only at a0 a1
   obtain⟨x,hx⟩: ∃x,at_ l i=x:=⟨_,rfl⟩
   obtain⟨y,hy⟩: ∃y,tk s.data.toList 4 t i=y:=⟨_,rfl⟩
   have BN: ∀(q:Nat) (z:Bool),z=(x&&y)->Hid (Bits ((wr.drewN q).setCell ⟨bm,i1,none⟩ (.bool z)) bm n (seen s.data.toList 4 t l i1)):=fun q z hz=>(Bits.put (w:=wr.drewN q) BT.out z).is fun j _=>by
    rw[<-hi1,OO,hx,hy,hz]
   have LN: ∀(q:Nat) (z:Bool),Hid (Below w.heap.size w ((wr.drewN q).setCell ⟨bm,i1,none⟩ (.bool z))):=fun q z=>(on LB.out (below_draws wr q)).setCell E2.out.1 _
   have PN: ∀(q:Nat) (z:Bool),Hid (Ad ((wr.drewN q).setCell ⟨bm,i1,none⟩ (.bool z)) b1 ⟨4,t,A,0,c,0,0⟩):=fun q z=>(heap_setCell_other (wr.drewN q) _ b1 _ fun e=>E2.out.2 e).trans PB.out
   rw[hx]at x0
   have hty:=hy
   rw[HT.out i hi]at hty
   have IY:Hid (i1+gk=s.size):=by have:=hig.out;unfold Hid;omega
   have hwc:IntKind.i64.wrap (s[i].toNat:Int)=(s[i].toNat:Int):=by rw[IntKind.wrap_i64];have:=s[i].toNat_lt;omega
   clear hx hy hi1 hig BT LB PB
   have hH:=FD.JO t s[i].toNat
   have tc:Ew.has t.data.toList s[i].toNat=y:=by
    rw[<-hty]
    unfold takes
    rw[if_neg (show¬(3:Int)=1 by decide),if_neg (show¬(3:Int)=2 by decide),if_pos rfl]
   rw[tc]at hH
   have HH:=hid hH
   clear hH tc
   clear hty
   go_wp2_with fail
   go_quiet ((go_at_call 85;exact Calls.quiet_of_same (HH.out _)))
   cases x with
   |true=>
    have SL:=fun q=>BN q y (by simp)
    have SN:=fun q=>LN q y
    have V4:=fun q=>PN q y
    clear BN LN PN
    go_wp2_with fail
    go_roundg gk
    case measure=>omega
    case rel=>exact⟨i1,by first|rfl|exact congrArg (Value.int .i64) DT,IY,SL _,SN _,V4 _⟩
   |false=>
    have SL:=fun q=>BN q false (by simp)
    have SN:=fun q=>LN q false
    have V4:=fun q=>PN q false
    clear BN LN PN
    go_wp2_with fail
    go_roundg gk
    case measure=>omega
    case rel=>exact⟨i1,by first|rfl|exact congrArg (Value.int .i64) DT,IY,SL _,SN _,V4 _⟩
end
end Fg
namespace Fg
open Strs Al
open Cj (Piece leaf Whole)
open BR (at_ O9 places EC Jb E qW)
open W14 (Raw Ak Be Ad AV AU Aq AZ Bi)
open Kit (below_draws on)
section
variable {s:ByteArray}
theorem f_ (hs:s.size<=500) {t:ByteArray} {p:Piece} {M:Nat} {tp:Int} (hM:M<=100) (ht:tp= -1\/(M:Int)<=tp/\tp<=100) (IH:Ho s p) (hg:Bv.Good p):Ho s (.mk 9 t [p] (M:Int) tp):=by
 intro w r v l hp hv hl
 have HT:Hid (∀w',Below w.heap.size w w'->Calls Tryz.prog 87 #[.agg (Ak r),.string s,v] w' fun e w''=> ∃l',EC s.size (E s.data.toList (.mk 9 t [p] (M:Int) tp)) l l'/\EE w' l' e w''):=fun w' hb=>by
  have hE: ∀q u,qW (E s.data.toList p) M tp q u↔E s.data.toList (.mk 9 t [p] (M:Int) tp) q u:=fun q u=>by
   have h1:(fun q u=>BR.sN s.data.toList [p] q u)=E s.data.toList p:=funext fun q=>funext fun u=>by rw[BR.sN]
   rw[E,if_neg (by decide),if_neg (by decide),if_neg (by decide),if_neg (by decide),if_neg (by decide),if_neg (by decide),if_pos rfl,Int.toNat_natCast,h1]
  rcases ht with rfl|ht
  ·exact(YS hs hM IH hg (hp.below hb) ((hv.below hb).more hb.size) hl).mono fun e w'' ⟨l',h1,h2⟩=>⟨l',h1.same fun q u _ _=>hE q u,h2⟩
  exact(aO hs hM ht IH hg (hp.below hb) ((hv.below hb).more hb.size) hl).mono fun e w'' ⟨l',h1,h2⟩=>⟨l',h1.same fun q u _ _=>hE q u,h2⟩
 obtain⟨A,c,Ag,rfl,k1⟩:=hp.parts
 obtain⟨n,hn⟩: ∃n,s.size+1=n:=⟨_,rfl⟩
 have hw1:wrap64 ((s.size:Int)+1)=(n:Int):=by have:=E_ (k:=s.size+1) (by omega);rw[hn]at this;rw[<-this,<-hn];rfl
 have HN:=hid (show n<=501 from by omega)
 simp only[List.length_singleton]at HT ⊢
 clear hp k1 hv hn hs hl hM ht IH hg
 go_enter Tryz.func56,Tryz.ntmps56
 go_wp2_with (first
  |(refine AV (r:=⟨9,t,A,1,c,(M:Int),tp⟩) rfl (.tmp 0) rfl rfl ?_;intro w1 b1 e1 p1 l1 z1;have a0:=p1.c0;have P1:=hid p1;have L1:=hid l1;clear e1 p1 l1 z1;simp only at a0)
  |(refine FR (n:=n) rfl (.tmp 16) (.tmp 16) rfl (congrArg (Value.int .i64) hw1) (congrArg (Value.int .i64) hw1) (by have:=HN.out;omega) ?_;intro w2 bm e2 p2 l2 z2;have L2:=hid (on L1.out l2);have B2:=hid (P1.out.below l2);have a2:=(P1.out.below l2).c0;clear e2 p2 l2 z2 a0;simp only at a2)
  |(refine AU (r:=⟨9,t,A,1,c,(M:Int),tp⟩) rfl (.tmp 3) rfl rfl B2.out ?_))
 refine(HT.out _ L2.out).mono ?_
 rintro e w3 ⟨l',im,v3,rfl,tr,lw⟩
 have R3:=hid tr
 have L3:=hid (on L2.out lw)
 have HI:=hid im
 clear tr lw im
 go_wp2_with fail
 go_ret
 exact⟨l',HI.out,v3,rfl,R3.out,L3.out⟩
theorem gB (hs:s.size<=500) {p:Piece} (h:Whole p):Ho s p:=by
 induction h with
 |none k hk=>
  rcases hk with rfl|rfl|rfl|rfl
  ·exact aN hs _
  ·exact fu hs _
  ·exact YR hs _
  exact fe hs _
 |char c=>exact aP hs _ rfl
 |set f=>exact fw hs _
 |many k hk l h2 h3 hw ih=>
  rcases hk with rfl|rfl
  ·exact fo hs (fun i hi=>ih _ (List.getElem_mem hi)) fun p hp=>Bv.Good.of_whole (hw p hp)
  exact fq hs fun i hi=>ih _ (List.getElem_mem hi)
 |rep p m t hm ht hw ih=>
  obtain⟨M,rfl⟩: ∃M:Nat,m=(M:Int):=⟨m.toNat,by omega⟩
  exact f_ hs (by omega) ht ih (Bv.Good.of_whole hw)
end
end Fg
end Go.Proofs.YtfgegjinhkgpbaaGreatDoor
