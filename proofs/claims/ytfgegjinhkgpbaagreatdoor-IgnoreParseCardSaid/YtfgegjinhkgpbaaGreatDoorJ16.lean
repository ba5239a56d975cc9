/-
  Texts joined, in build order, each with its own comment and its own conditions: W15Kid, W15Rep, W15All, W15New, W14Sizes.
-/
import Derived.Test.YtfgegjinhkgpbaaGreatDoorJ15
import Derived.Test.YtfgegjinhkgpbaaGreatDoorJ10
import Derived.Test.YtfgegjinhkgpbaaGreatDoorTake
import Derived.Deep.Onto
import Derived.Test.YtfgegjinhkgpbaaGreatDoorJ11
import Derived.Test.YtfgegjinhkgpbaaGreatDoorJ08
namespace Go.Proofs.YtfgegjinhkgpbaaGreatDoor
set_option maxHeartbeats 4000000
set_option maxRecDepth 100000
open Go.RowKit
open Lib (hid)
namespace EH
open Strs Al Bv
open Cj (Piece size sizes)
open W14 (Raw Ea Ak Co DF FT Ad AZ AO Bi BL AV AU AY)
open BU (Beside)
open Kit (below_draws on)
def Cons (laid:Bool) (f e:Nat) (L:List AL) (p:Piece):Prop:=laid=true-> ∃P R,L=P++(steps p f++R)/\P.length=f/\e=f+(steps p f).length
theorem Cons.more {laid:Bool} {f e:Nat} {L:List AL} {p:Piece} (h:Cons laid f e L p) (M:List AL):Cons laid f e (L++M) p:=fun hl=>by
 obtain⟨P,R,rfl,h1,h2⟩:=h hl
 exact⟨P,R++M,by simp only[List.append_assoc],h1,h2⟩
def yS (b c2 c3 c5 c6 c7:Nat) (r:Raw) (p:Piece) (v:Value) (w:World) (L:List AL) (e:Ending) (w':World):Prop:=
 e= .returned (.tuple #[])/\ ∃v' f e',Lay w' b v' (L++steps p L.length)/\IQ b c5 c6 c7 v v' w w'/\DZ w' b c2 c3 c5 c6 c7 r true f e'/\Cons true f e' (L++steps p L.length) p
section
variable {w w':World} {b c2 c3 c5 c6 c7 f e:Nat} {r:Raw} {laid:Bool} {v v':Value} {L:List AL} {p:Piece}
theorem cell0 {c:Nat} {t:TypeId} {u:Value} (h:w.heap[c]? =some (.cells #[u] t (0,0))):w.cell? ⟨c,0,none⟩=some u/\w.frozen? ⟨c,0,none⟩=false:=⟨cell_of_row w c 0 _ _ _ h,frozen_of_row w c 0 _ _ h⟩
theorem Nw {c:Nat} {t:TypeId} {u:Value} (h:w.heap[c]? =some (.cells #[u] t (0,0))) (u':Value):(w.setCell ⟨c,0,none⟩ u').heap[c]? =some (.cells #[u'] t (0,0)):=by
 rw[heap_setCell_same w c 0 _ _ _ h];rfl
theorem DZ.vP (h:DZ w b c2 c3 c5 c6 c7 r laid f e) (h5:Es b c2 c3 c5 c6 c7) (n:Nat):DZ (w.setCell ⟨c5,0,none⟩ (.int .i64 n)) b c2 c3 c5 c6 c7 r laid n e:=by
 unfold Es at h5
 exact⟨(heap_setCell_other w _ c2 _ (show c2≠c5 by omega)).trans h.b2,(heap_setCell_other w _ c3 _ (show c3≠c5 by omega)).trans h.b3,Nw h.b5 _,(heap_setCell_other w _ c6 _ (show c6≠c5 by omega)).trans h.b6,(heap_setCell_other w _ c7 _ (show c7≠c5 by omega)).trans h.b7⟩
theorem DZ.yT (h:DZ w b c2 c3 c5 c6 c7 r laid f e) (h5:Es b c2 c3 c5 c6 c7) (n:Nat):DZ (w.setCell ⟨c6,0,none⟩ (.int .i64 n)) b c2 c3 c5 c6 c7 r laid f n:=by
 unfold Es at h5
 exact⟨(heap_setCell_other w _ c2 _ (show c2≠c6 by omega)).trans h.b2,(heap_setCell_other w _ c3 _ (show c3≠c6 by omega)).trans h.b3,(heap_setCell_other w _ c5 _ (show c5≠c6 by omega)).trans h.b5,Nw h.b6 _,(heap_setCell_other w _ c7 _ (show c7≠c6 by omega)).trans h.b7⟩
theorem DZ.yU (h:DZ w b c2 c3 c5 c6 c7 r laid f e) (h5:Es b c2 c3 c5 c6 c7) (l:Bool):DZ (w.setCell ⟨c7,0,none⟩ (.bool l)) b c2 c3 c5 c6 c7 r l f e:=by
 unfold Es at h5
 exact⟨(heap_setCell_other w _ c2 _ (show c2≠c7 by omega)).trans h.b2,(heap_setCell_other w _ c3 _ (show c3≠c7 by omega)).trans h.b3,(heap_setCell_other w _ c5 _ (show c5≠c7 by omega)).trans h.b5,(heap_setCell_other w _ c6 _ (show c6≠c7 by omega)).trans h.b6,Nw h.b7 _⟩
theorem Lay.JL (hl:Lay w b v L) {c:Nat} (hc:c≠b) (ho:v.ownBlock≠some c) (u:Value):Lay (w.setCell ⟨c,0,none⟩ u) b v L:=hl.other ((Beside.refl c w).put 0 u) hc ho
theorem di (IH:Mh p) (h:Lay w b v L) (ha:DZ w b c2 c3 c5 c6 c7 r false f e) (h5:Es b c2 c3 c5 c6 c7) (hp:DF (fun k=>k<b) w r p) (hl:L.length+size p<=4000):
    Calls Tryz.prog 150 #[.pointer (some ⟨c7,0,none⟩),.pointer (some ⟨c2,0,none⟩),.pointer (some ⟨c5,0,none⟩),.pointer (some ⟨c6,0,none⟩),.pointer (some ⟨c3,0,none⟩)] w (yS b c2 c3 c5 c6 c7 r p v w L):=by
 have H:=hid h
 have HA:=hid ha
 have H5:=hid h5
 have HLEN:Hid ((L++steps p L.length).length=L.length+(steps p L.length).length):=List.length_append
 have HC:Hid (∀(w:World) (v:Value),Lay w b v L->DF (fun k=>k<b) w r p->Calls Tryz.prog 77 #[.pointer (some ⟨b,0,none⟩),.agg (Ak r)] w (Laid b v w (L++steps p L.length))):=fun w v h1 h2=>IH w b v L r h1 h2 hl
 have HP:=hid hp
 obtain⟨N,hN⟩: ∃N,L.length=N:=⟨_,rfl⟩
 obtain⟨E,hE⟩: ∃E,N+(steps p L.length).length=E:=⟨_,rfl⟩
 have HN:=hid hN
 have HE:=hid hE
 obtain⟨c7a,c7b⟩:=cell0 ha.b7
 obtain⟨c5a,c5b⟩:=cell0 ha.b5
 obtain⟨c2a,-⟩:=cell0 ha.b2
 have n1: ¬c5=c7:=by unfold Es at h5;omega
 have n2: ¬c7=c5:=by unfold Es at h5;omega
 have n3: ¬c2=c5:=by unfold Es at h5;omega
 have n4: ¬c2=c7:=by unfold Es at h5;omega
 have n5: ¬c5=c2:=by unfold Es at h5;omega
 have n6: ¬c7=c2:=by unfold Es at h5;omega
 have HH:=hid (ES h)
 rw[hN]at HH
 clear h ha h5 hp IH hl hN hE
 go_enter Tryz.func150,Tryz.ntmps150
 go_wp2_with fail
 refine HH.out.mono ?_
 rintro e1 w1 ⟨rfl,rfl⟩
 have A2:=hid ((HA.out.vP H5.out N).yU H5.out true)
 have L2:=hid ((H.out.JL (c:=c5) (by have:=H5.out;unfold Es at this;omega) (HA.out.Ms H.out (by simp)) (.int .i64 N)).JL (c:=c7) (by have:=H5.out;unfold Es at this;omega) ((HA.out.vP H5.out N).Ms (H.out.JL (c:=c5) (by have:=H5.out;unfold Es at this;omega) (HA.out.Ms H.out (by simp)) (.int .i64 N)) (by simp)) (.bool true))
 have T2:Hid (IQ b c5 c6 c7 v v w1 ((w1.setCell ⟨c5,0,none⟩ (.int .i64 N)).setCell ⟨c7,0,none⟩ (.bool true))):=(IQ.put w1 v b (.inl rfl) _).trans (IQ.put _ v b (.inr (.inr rfl)) _)
 have P2:=hid (T2.out.piece H5.out H.out HP.out)
 go_wp2_with (first|(refine AU (r:=r) rfl (.tmp 4) rfl rfl A2.out.b3 ?_))
 refine(HC.out _ _ L2.out P2.out).mono ?_
 rintro e2 w3 ⟨rfl,v3,h3,g3⟩
 have L3:=hid h3
 have A3:=hid (A2.out.grow H5.out L2.out g3)
 have T3:=hid (T2.out.trans (IQ.of g3))
 have H3:=hid (ES h3)
 rw[HLEN.out,HN.out]at H3
 have HS:Hid ((steps p L.length).length+N=E):=by unfold Hid;rw[<-HE.out,Nat.add_comm]
 have H3:Hid (Calls Tryz.prog 133 #[.pointer (some ⟨b,0,none⟩)] w3 fun e w'=>e= .returned (.int .i64 E)/\w'=w3):=by
  have h1:=ES h3
  rw[HLEN.out,HN.out]at h1
  rw[HN.out]at HE
  rw[HE.out]at h1
  exact h1
 clear h3 g3 HS
 have d2:=(cell0 A3.out.b2).1
 obtain⟨d6,d6b⟩:=cell0 A3.out.b6
 go_wp2_with fail
 refine H3.out.mono ?_
 rintro e3 w4 ⟨rfl,rfl⟩
 go_wp2_with fail
 go_end0
 refine⟨rfl,v3,N,E,L3.out.JL (by have:=H5.out;unfold Es at this;omega) (A3.out.Ms L3.out (by simp)) _,T3.out.trans (IQ.put _ v3 b (.inr (.inl rfl)) _),A3.out.yT H5.out E,fun _=>⟨L,[],?_,HN.out,?_⟩⟩
 ·rw[List.append_nil,HN.out]
 have:=HE.out;rw[HN.out]at this;exact this.symm
theorem jq (hg:Bv.Good p) (hs:size p<=4000) (h:Lay w b v L) (h5:Es b c2 c3 c5 c6 c7) (ha:DZ w b c2 c3 c5 c6 c7 r true f e) (hc:Cons true f e L p) (hl:L.length+size p<=4000):
    Calls Tryz.prog 150 #[.pointer (some ⟨c7,0,none⟩),.pointer (some ⟨c2,0,none⟩),.pointer (some ⟨c5,0,none⟩),.pointer (some ⟨c6,0,none⟩),.pointer (some ⟨c3,0,none⟩)] w (yS b c2 c3 c5 c6 c7 r p v w L):=by
 have HA:=hid ha
 have H5:=hid h5
 have HC:=hid hc
 have HO:Hid (Calls Tryz.prog 151 #[.pointer (some ⟨b,0,none⟩),.int .i64 f,.int .i64 e] w (Laid b v w (L++steps p L.length))):=by
  obtain⟨P,R,hL,hP,he⟩:=hc rfl
  have hlen:=Ba hg hs f
  by_cases h0:0<(steps p f).length
  ·have h1:=h
   rw[hL]at h1
   have h2:=jo h1 h0 (by rw[<-hL];omega) (fun x hx=>by
    have h3:=Qy hg hs f x hx
    have hf:f<=L.length:=by rw[hL,<-hP,List.length_append];omega
    have h4:=h3.x1
    have h5:=h3.x2
    refine⟨⟨by omega,by omega⟩,?_⟩
    by_cases c:x.kind=6
    ·have h6:=h3.y1 c;exact⟨by omega,by omega⟩
    have h6:=h3.y2 c;exact⟨by omega,by omega⟩)
   have h3:L.length=f+((steps p f).length+R.length):=by rw[hL,List.length_append,List.length_append,hP]
   rw[hP,<-he,<-Wq,<-h3,<-hL]at h2
   exact h2
  have hz:size p=0:=by omega
  have h1:steps p L.length= []:=List.length_eq_zero_iff.1 (by rw[Ba hg hs,hz])
  have h2:e=f:=by omega
  rw[h1,List.append_nil,h2]
  exact dh h (by rw[hL,<-hP,List.length_append];omega)
 have d7:=(cell0 ha.b7).1
 have d2:=(cell0 ha.b2).1
 have d5:=(cell0 ha.b5).1
 have d6:=(cell0 ha.b6).1
 have HL:=hid h
 clear ha hc h hg hs hl h5
 go_enter Tryz.func150,Tryz.ntmps150
 go_wp2_with fail
 refine HO.out.mono ?_
 rintro e2 w3 ⟨rfl,v3,h3,g3⟩
 have L3:=hid h3
 have G3:=hid g3
 clear h3 g3
 go_wp2_with fail
 (first|go_end0|(simp only[Exit.inBlock,Exit.then];refine bodyPost_ret (results_none rfl _ _ _) rfl ?_)|refine bodyPost_ret (results_none rfl _ _ _) rfl ?_)
 exact⟨rfl,v3,f,e,L3.out,IQ.of G3.out,HA.out.grow H5.out HL.out G3.out,HC.out.more _⟩
theorem Pm (IH:Mh p) (hg:Bv.Good p) (hs:size p<=4000) (h:Lay w b v L) (h5:Es b c2 c3 c5 c6 c7) (ha:DZ w b c2 c3 c5 c6 c7 r laid f e) (hc:Cons laid f e L p) (hp:DF (fun k=>k<b) w r p) (hl:L.length+size p<=4000):
    Calls Tryz.prog 150 #[.pointer (some ⟨c7,0,none⟩),.pointer (some ⟨c2,0,none⟩),.pointer (some ⟨c5,0,none⟩),.pointer (some ⟨c6,0,none⟩),.pointer (some ⟨c3,0,none⟩)] w (yS b c2 c3 c5 c6 c7 r p v w L):=by
 cases laid with
 |false=>exact di IH h ha h5 hp hl
 |true=>exact jq hg hs h h5 ha hc hl
end
end EH
namespace Bv
open Go Cj
theorem Ha (f:Nat->List AL): ∀(n a:Nat),times f (n+1) a=times f n a++f (a+(times f n a).length)
 |0,a=>by simp[times]
 |n+1,a=>by
  rw[times,Ha f n (a+(f a).length),times,List.append_assoc,List.length_append,Nat.add_assoc]
def Xk (K:Nat):Nat->Nat->List Nat
 |0,_=> []
 |n+1,a=>a::Xk K n (a+(K+1))
theorem VU (K:Nat): ∀(n a:Nat),(Xk K n a).length=n
 |0,_=>rfl
 |n+1,a=>by rw[Xk,List.length_cons,VU K n]
theorem Xl (K:Nat): ∀(n a:Nat),Xk K (n+1) a=Xk K n a++ [a+n*(K+1)]
 |0,a=>by simp[Xk]
 |n+1,a=>by
  rw[Xk,Xl K n,Xk,Nat.succ_mul,List.cons_append,show a+(K+1)+n*(K+1)=a+(n*(K+1)+(K+1)) by omega]
theorem bC (K:Nat): ∀(n a j:Nat),j<n->(Xk K n a)[j]? =some (a+j*(K+1))
 |0,_,j,h=>by omega
 |n+1,a,0,_=>by simp[Xk]
 |n+1,a,j+1,h=>by
  rw[Xk,List.getElem?_cons_succ,bC K n _ j (by omega),Nat.succ_mul,show a+(K+1)+j*(K+1)=a+(j*(K+1)+(K+1)) by omega]
theorem JS {f:Nat->List AL} {K:Nat} (hf: ∀a,(f a).length=K) (e:Nat): ∀(n a:Nat),maybe f e (n+1) a=maybe f e n a++(split (a+n*(K+1)+1) e::f (a+n*(K+1)+1))
 |0,a=>by simp[maybe]
 |n+1,a=>by
  rw[maybe,JS hf e n,maybe,hf,Nat.succ_mul,show a+1+K+n*(K+1)=a+(n*(K+1)+(K+1)) by omega]
  simp only[List.cons_append,List.append_assoc]
theorem jr {f:Nat->List AL} {K:Nat} (hf: ∀a,(f a).length=K) (e:Nat) {n j:Nat} (hj:j<n) (a:Nat):
    maybe f e j a++maybe f 0 (n-j) (a+j*(K+1))=maybe f e j a++split (a+j*(K+1)+1) 0::(f (a+j*(K+1)+1)++maybe f 0 (n-(j+1)) (a+(j+1)*(K+1)))/\
    maybe f e (j+1) a++maybe f 0 (n-(j+1)) (a+(j+1)*(K+1))=maybe f e j a++split (a+j*(K+1)+1) e::(f (a+j*(K+1)+1)++maybe f 0 (n-(j+1)) (a+(j+1)*(K+1))):=by
 obtain⟨m,rfl⟩: ∃m,n=j+1+m:=⟨n-(j+1),by omega⟩
 rw[show j+1+m-j=m+1 by omega,show j+1+m-(j+1)=m by omega]
 refine⟨?_,?_⟩
 ·rw[maybe,hf,Nat.succ_mul,show a+j*(K+1)+1+K=a+(j*(K+1)+(K+1)) by omega]
 rw[JS hf]
 simp only[List.append_assoc,List.cons_append]
end Bv
namespace EH
open Strs Al Bv
open Cj (Piece size sizes)
open W14 (Raw Ea Ak Co DF FT Ad AZ AO Bi BL AV AU Aq AY)
open BU (Beside)
open Kit (below_draws on)
set_option maxHeartbeats 8000000 in
theorem jv {p:Piece} (IH:Mh p) (hg:Bv.Good p) {w:World} {b:Nat} {v:Value} {L:List AL} {t:ByteArray} {A:Option Addr} {c:Nat} {M:Nat} {Ag:List Raw} (h:Lay w b v L) (k1:EU b w A c Ag [p]) {E:Nat} (hM:M<=100) (hE:L.length+(M*size p+size p+2)=E) (hl:E<=4000):
    Calls Tryz.prog 107 #[.pointer (some ⟨b,0,none⟩),.agg (Ak ⟨9,t,A,1,c,(M:Int),-1⟩)] w (Laid b v w (L++(times (steps p) M L.length++star (steps p) E (L.length+(times (steps p) M L.length).length)))):=by
 have HM:=hid hM
 clear hM
 have H:=hid h
 have K1:=hid k1
 have om:=hid IH
 have HG:=hid hg
 have HL:=hid hl
 have HE:=hid hE
 obtain⟨K,hK⟩: ∃K,size p=K:=⟨_,rfl⟩
 rw[hK]at HE
 have HK:=hid hK
 have hr:1<=c/\c<=9223372036854775807:=(k1.kids (Nat.le_of_lt h.box.lt)).room
 obtain⟨g1,o1,rfl,C1⟩:=(k1.kids (Nat.le_of_lt h.box.lt)).at_ (Nat.lt_succ_self 0)
 obtain⟨hr1,q1⟩:=k1.kid (i:=0) (Nat.lt_succ_self 0)
 have E1:=C1 0 hr1
 obtain⟨rk,Hy⟩: ∃rk,Ag[0]=rk:=⟨_,rfl⟩
 rw[Hy]at E1 q1
 have Q1:Hid (DF (fun k=>k<b) w rk p):=q1
 rw[show o1+0*5=o1 by omega]at E1
 have G1:Hid (g1<b):=k1.2.1 _ rfl (Nat.lt_of_le_of_lt (Nat.zero_le _) hr1)
 have E1:=hid E1
 have hr2:=hr.1
 have hr3:=hr.2
 clear h IH hg k1 hl hr hE C1 q1 Hy hr1 hK
 go_enter Tryz.func107,Tryz.ntmps107
 go_wp2_with (first
  |(refine AV (r:=⟨9,t,some ⟨g1,o1,none⟩,1,c,(M:Int),-1⟩) rfl (.tmp 1) rfl rfl ?_;intro w1 b1 e1 p1 l1 z1;have P1:=hid p1;have a2:=p1.c2;have L1:=hid l1;have B1:=hid (show b1≠b by have:=H.out.box.lt;omega);have E2:Hid (∀j,j<5->w1.cell? ⟨g1,o1+j,none⟩=(Co rk)[j]?):=(fun j hj=>(AO (l1.block g1 (Nat.lt_trans G1.out H.out.box.lt))).trans (E1.out j hj));have HB1:=hid z1;have HB2:=hid e1;clear e1 p1 l1 z1;simp only at a2)
  |(refine Aq rfl (.tmp 12) rfl rfl (r:=rk) E2.out ?_))
 have H1:=hid (H.out.below L1.out)
 refine(UU (b:=b) (r:=rk) H1.out.box.lt).mono ?_
 rintro e w2 ⟨c2,c3,c5,c6,c7,rfl,hc2,vQ,h5,a5,l5⟩
 have F5:=hid h5
 have C5:=hid (show w.heap.size<=c5/\w.heap.size<=c6/\w.heap.size<=c7/\c7<w2.heap.size/\b1<c5/\w.heap.size<=w2.heap.size from by
  have:=L1.out.size
  have:=l5.size
  have:=HB1.out
  have:=HB2.out
  unfold Es at h5
  exact⟨by omega,by omega,by omega,vQ,by omega,by omega⟩)
 have BX:Hid (b1≠c5/\b1≠c6/\b1≠c7):=by unfold Hid;have:=C5.out;unfold Es at h5;exact⟨by omega,by omega,by omega⟩
 have A2:=hid a5
 have H2:=hid (H1.out.below l5)
 have P2:=hid (P1.out.below l5)
 have G2:=hid (Grow.of (b:=b) (v:=v) (on L1.out l5))
 have Q2:=hid (CV (on L1.out l5) H.out.box.lt Q1.out)
 have HT:=hid H.out.box.lt
 clear a2 hc2 vQ h5 a5 l5 hr2 hr3
 have a3:=P2.out.c3
 simp only at a3
 go_wp2_with fail
 clear a3
 obtain⟨B,hB⟩: ∃B,w2.heap.size=B:=⟨_,rfl⟩
 have gG:=hid hB
 clear hB
 go_loopg [17] M (fun gk vR wr=> ∃(i:Nat) (v1:Value) (laid:Bool) (f e:Nat),vR= .int .i64 i/\Hid (i+gk=M)/\Hid (Lay wr b v1 (L++times (steps p) i L.length))/\Hid (DZ wr b c2 c3 c5 c6 c7 rk laid f e)/\Hid (Cons laid f e (L++times (steps p) i L.length) p)/\Hid (Grow b v v1 w wr)/\Hid (Ad wr b1 ⟨9,t,some ⟨g1,o1,none⟩,1,c,(M:Int),-1⟩)/\Hid (DF (fun k=>k<b) wr rk p)/\Hid (B<=wr.heap.size))
 case atStart=>exact⟨0,v,false,0,0,rfl,by unfold Hid;omega,by unfold Hid;simp only[times,List.append_nil];exact H2.out,A2,fun q=>by simp at q,G2,P2,Q2,by unfold Hid;have:=gG.out;omega⟩
 case round=>
  obtain⟨i,v1,laid,f,e,rfl,hig,IW,AA,CC,GG,PP,QQ,GS⟩:=hrel
  by_cases hi:i<M
  ·have ti:(i:Int)<(M:Int):=by omega
   have hK4:K<=4000:=by have:=HE.out;have:=HL.out;omega
   have hlen:=Ba HG.out (by rw[HK.out];exact hK4)
   rw[HK.out]at hlen
   have vS:(i+1)*K<=M*K:=Nat.mul_le_mul_right _ hi
   rw[Nat.succ_mul]at vS
   have hll:(L++times (steps p) i L.length).length=L.length+i*K:=by rw[List.length_append,Cv hlen]
   have HX:Hid (L++times (steps p) (i+1) L.length=L++times (steps p) i L.length++steps p (L++times (steps p) i L.length).length):=by
    unfold Hid
    rw[Ha,hll,Cv hlen,List.append_assoc]
   have HC:=hid (Pm om.out HG.out (by rw[HK.out];exact hK4) IW.out F5.out AA.out CC.out QQ.out (by rw[hll,HK.out];have:=HE.out;have:=HL.out;omega))
   have HI2:=hid hi
   have DT:Hid (wrap64 ((i:Int)+1)=((i+1:Nat):Int)):=by unfold Hid wrap64;have:=HM.out;omega
   clear hll vS hlen hK4 hi
   go_wp2_with fail
   refine HC.out.mono ?_
   rintro e5 w5 ⟨rfl,v5,f5,e5,l5,t5,a5,sU⟩
   rw[<-HX.out]at l5 sU
   have L5:=hid l5
   have A5:=hid a5
   have yV:=hid sU
   have G5:=hid (GG.out.turn t5 C5.out.1 C5.out.2.1 C5.out.2.2.1)
   have P5:=hid (t5.boxed IW.out PP.out B1.out BX.out)
   have Q5:=hid (t5.piece F5.out IW.out QQ.out)
   have S5:=hid (Nat.le_trans GS.out t5.size)
   clear l5 t5 a5 sU
   cases gk with
   |zero=>exact absurd hig.out (by have:=HI2.out;omega)
   |succ g=>
    go_wp2_with fail
    go_roundg g
    case measure=>omega
    case rel=>exact⟨i+1,v5,true,f5,e5,by first|rfl|exact congrArg (Value.int .i64) DT.out,by have:=hig.out;unfold Hid;omega,L5,A5,yV,G5,P5,Q5,S5⟩
  have ti: ¬(i:Int)<(M:Int):=by omega
  have hie:i=M:=by have:=hig.out;omega
  subst hie
  clear hi
  have hK4:K<=4000:=by have:=HE.out;have:=HL.out;omega
  have hlen:=Ba HG.out (by rw[HK.out];exact hK4)
  rw[HK.out]at hlen
  obtain⟨N,hN⟩: ∃N,(L++times (steps p) i L.length).length=N:=⟨_,rfl⟩
  have J2:N=L.length+i*K:=by rw[<-hN,List.length_append,Cv hlen]
  obtain⟨Li,RI⟩: ∃Li,L++times (steps p) i L.length=Li:=⟨_,rfl⟩
  have Nv:Hid (L++(times (steps p) i L.length++star (steps p) E (L.length+(times (steps p) i L.length).length))=Li++Bv.split (N+1) E::(steps p (N+1)++ [Bv.jump N])):=by
   unfold Hid
   rw[Cv hlen,<-J2,<-List.append_assoc,RI];rfl
  rw[RI]at hN IW CC
  have EN:=hid hN
  have uP:Hid (N+K+2=E/\E<=4000):=by unfold Hid;have:=HE.out;have:=HL.out;omega
  have VT:=hid (hlen (N+1))
  have a4:=PP.out.c4
  simp only at a4
  clear hN J2 RI hlen
  go_wp2_with fail
  refine(F9 IW.out (by rw[EN.out];have:=uP.out;omega) 6 ⟨#[]⟩).mono ?_
  rintro e5 w5 ⟨rfl,v5,l5,g5⟩
  rw[EN.out]
  rw[EN.out]at l5
  have L5:=hid l5
  have A5:=hid (AA.out.grow F5.out IW.out g5)
  have yX:=hid (CC.out.more [(⟨6,⟨#[]⟩,((N+1:Nat):Int),0⟩:AL)])
  have G5:=hid (GG.out.trans g5)
  have Q5:=hid (g5.piece IW.out QQ.out)
  have hl5:(Li++ [(⟨6,⟨#[]⟩,((N+1:Nat):Int),0⟩:AL)]).length=N+1:=by rw[List.length_append,EN.out];rfl
  have HC:=hid (Pm om.out HG.out (by rw[HK.out];exact hK4) L5.out F5.out A5.out yX.out Q5.out (by rw[hl5,HK.out];have:=uP.out;omega))
  have vT:=hid hl5
  clear l5 g5 hl5 a4 hK4
  go_wp2_with fail
  refine HC.out.mono ?_
  rintro e6 w6 ⟨rfl,v6,f6,e6,l6,t6,-,-⟩
  rw[vT.out]at l6
  have L6:=hid l6
  have G6:=hid (G5.out.turn t6 C5.out.1 C5.out.2.1 C5.out.2.2.1)
  have uN:(Li++ [(⟨6,⟨#[]⟩,((N+1:Nat):Int),0⟩:AL)]++steps p (N+1)).length=N+1+K:=by rw[List.length_append,vT.out,VT.out]
  have vI:=hid uN
  clear l6 t6 uN
  go_wp2_with fail
  refine(Ws L6.out (by rw[vI.out];have:=uP.out;omega) N).mono ?_
  rintro e7 w7 ⟨rfl,v7,h7,g7⟩
  have G7:=hid (G6.out.trans g7)
  have sP:(Li++ [(⟨6,⟨#[]⟩,((N+1:Nat):Int),0⟩:AL)]++steps p (N+1)++ [Bv.jump N]).length=E:=by
   rw[List.length_append,vI.out]
   have:=uP.out
   simp only[List.length_cons,List.length_nil];omega
  obtain⟨gs,cs,hv7,hq1,hq2⟩:=h7.shape (by rw[sP];have:=uP.out;omega)
  rw[sP]at hv7 hq1
  subst hv7
  have H7:Hid (Lay w7 b (.slice (some ⟨gs,0,none⟩) E cs) (Li++(⟨6,⟨#[]⟩,((N+1:Nat):Int),0⟩:AL)::(steps p (N+1)++ [Bv.jump N]))):=by
   have:=h7
   rw[List.append_assoc,List.append_assoc]at this
   exact this
  have HCS:=hid (show E<=cs/\cs<=9223372036854775807 from⟨hq1,hq2⟩)
  have D7:=hid (below_draws w7 1)
  have wZ:=hid (H7.out.below D7.out)
  have HH:Hid (Calls Tryz.prog 133 #[.pointer (some ⟨b,0,none⟩)] (w7.drewN 1) fun e w'=>e= .returned (.int .i64 E)/\w'=w7.drewN 1):=by
   have h1:=ES wZ.out
   have h2:(Li++(⟨6,⟨#[]⟩,((N+1:Nat):Int),0⟩:AL)::(steps p (N+1)++ [Bv.jump N])).length=E:=by rw[<-sP];simp only[List.append_assoc,List.cons_append,List.nil_append]
   rw[h2]at h1
   exact h1
  have S0:Hid ((w7.drewN 1).cell? ⟨b,0,none⟩=some (.slice (some ⟨gs,0,none⟩) E cs)):=wZ.out.box.c0
  obtain⟨-,f2,f3⟩:=wZ.out.field EN.out
  simp only at f2
  have f3:=f3 (N*4+3)
  have SET:=wZ.out.rJ (E:Int)
  rw[EN.out]at SET
  have HX:=hid SET
  have SE:Hid (((w7.drewN 1).setCell ⟨gs,N*4+3,none⟩ (.int .i64 E)).cell? ⟨b,0,none⟩=some (.slice (some ⟨gs,0,none⟩) E cs)):=SET.1.box.c0
  have tq:(N:Int)<(E:Int):=by have:=uP.out;omega
  clear h7 g7 sP hq1 hq2 SET
  go_wp2_with fail
  refine wp_region_held_drew (S:=fun w'=>w'.cell? ⟨b,0,none⟩=some (.slice (some ⟨gs,0,none⟩) E cs)) (by kernel_rfl) S0.out (fun hHeld=> ?_)
  refine Take.k 0 ⟨some 32,.move (.tmp 0),_,_,_,none⟩ ?_
  refine Take.k 1 ⟨some 33,.nilCheck (.tmp 32),_,_,_,none⟩ ?_
  refine Take.k 2 ⟨some 34,.fieldAddr 104 (.tmp 33) 0,_,_,_,none⟩ ?_
  refine Take.k 3 ⟨some 35,.load 46 (.tmp 34),_,_,_,none⟩ ?_
  refine Take.k 4 ⟨some 36,.move (.tmp 5),_,_,_,none⟩ ?_
  refine Take.k 5 ⟨some 37,.move (.tmp 0),_,_,_,none⟩ ?_
  refine wpAnyH_ready (rs:= [6]) (by kernel_rfl) (by simp) ?_
  refine AllReadyH.cons (o:=⟨some 38,.call ⟨.value (.func 133), #[.tmp 37], #[99]⟩,_,_,_,none⟩) rfl (fun K hK=> ?_) AllReadyH.nil
  go_simp
  (go_at_call 133;refine HH.out.mono ?_;rintro e x1 ⟨rfl,rfl⟩)
  go_wp2_with fail
  refine hK.out _ _ ?_ (fun hHeld=> ?_)
  ·exact S0.out
  clear hK K
  try simp only[Act.put,Take.a,Take.b,Take.c]
  refine Take.k 7 ⟨some 39,.indexAddr 46 (.tmp 35) (.tmp 36),_,_,_,none⟩ ?_
  refine Take.k 8 ⟨some 40,.fieldAddr 106 (.tmp 39) 3,_,_,_,none⟩ ?_
  refine wpAnyH_ready (rs:= [9]) (by kernel_rfl) (by simp) ?_
  refine AllReadyH.cons (o:=⟨none,.store 3 (.tmp 40) (.tmp 38),_,_,_,none⟩) rfl (fun K hK=> ?_) AllReadyH.nil
  go_simp
  skip
  go_wp2_with fail
  refine hK.out _ _ ?_ (fun hHeld=> ?_)
  ·exact SE.out
  clear hK K
  try simp only[Act.put,Take.a,Take.b,Take.c]
  refine wpAnyH_done (by kernel_rfl) ?_ _
  have FIN:Hid (Lay ((w7.drewN 1).setCell ⟨gs,N*4+3,none⟩ (.int .i64 E)) b (.slice (some ⟨gs,0,none⟩) E cs) (L++(times (steps p) i L.length++star (steps p) E (L.length+(times (steps p) i L.length).length)))):=by unfold Hid;rw[Nv.out];exact HX.out.1
  have G8:=hid ((G7.out.trans (Grow.of D7.out)).trans HX.out.2)
  clear f2 f3 tq
  go_wp2_with fail
  (first|go_end0|refine bodyPost_ret (results_none rfl _ _ _) rfl ?_)
  exact⟨rfl,_,FIN.out,G8.out⟩
set_option maxHeartbeats 8000000 in
theorem jw {p:Piece} (IH:Mh p) (hg:Bv.Good p) {w:World} {b:Nat} {v:Value} {L:List AL} {t:ByteArray} {A:Option Addr} {c:Nat} {M T D:Nat} {Ag:List Raw} (h:Lay w b v L) (k1:EU b w A c Ag [p]) {E:Nat} (hM:M<=100) (hT:M+D=T/\T<=100) (hE:L.length+(M*size p+D*(size p+1))=E) (hl:E<=4000) (vU:0<M\/0<D->size p<=4000):
    Calls Tryz.prog 107 #[.pointer (some ⟨b,0,none⟩),.agg (Ak ⟨9,t,A,1,c,(M:Int),(T:Int)⟩)] w (Laid b v w (L++(times (steps p) M L.length++maybe (steps p) E D (L.length+(times (steps p) M L.length).length)))):=by
 have HM:=hid hM
 have sV:=hid hT
 have mV:=hid vU
 clear hM hT vU
 have H:=hid h
 have K1:=hid k1
 have om:=hid IH
 have HG:=hid hg
 have HL:=hid hl
 have HE:=hid hE
 obtain⟨K,hK⟩: ∃K,size p=K:=⟨_,rfl⟩
 rw[hK]at HE mV
 have HK:=hid hK
 have hr:1<=c/\c<=9223372036854775807:=(k1.kids (Nat.le_of_lt h.box.lt)).room
 obtain⟨g1,o1,rfl,C1⟩:=(k1.kids (Nat.le_of_lt h.box.lt)).at_ (Nat.lt_succ_self 0)
 obtain⟨hr1,q1⟩:=k1.kid (i:=0) (Nat.lt_succ_self 0)
 have E1:=C1 0 hr1
 obtain⟨rk,Hy⟩: ∃rk,Ag[0]=rk:=⟨_,rfl⟩
 rw[Hy]at E1 q1
 have Q1:Hid (DF (fun k=>k<b) w rk p):=q1
 rw[show o1+0*5=o1 by omega]at E1
 have G1:Hid (g1<b):=k1.2.1 _ rfl (Nat.lt_of_le_of_lt (Nat.zero_le _) hr1)
 have E1:=hid E1
 have hr2:=hr.1
 have hr3:=hr.2
 clear h IH hg k1 hl hr hE C1 q1 Hy hr1 hK
 go_enter Tryz.func107,Tryz.ntmps107
 go_wp2_with (first
  |(refine AV (r:=⟨9,t,some ⟨g1,o1,none⟩,1,c,(M:Int),(T:Int)⟩) rfl (.tmp 1) rfl rfl ?_;intro w1 b1 e1 p1 l1 z1;have P1:=hid p1;have a2:=p1.c2;have L1:=hid l1;have B1:=hid (show b1≠b by have:=H.out.box.lt;omega);have E2:Hid (∀j,j<5->w1.cell? ⟨g1,o1+j,none⟩=(Co rk)[j]?):=(fun j hj=>(AO (l1.block g1 (Nat.lt_trans G1.out H.out.box.lt))).trans (E1.out j hj));have HB1:=hid z1;have HB2:=hid e1;clear e1 p1 l1 z1;simp only at a2)
  |(refine Aq rfl (.tmp 12) rfl rfl (r:=rk) E2.out ?_))
 have H1:=hid (H.out.below L1.out)
 refine(UU (b:=b) (r:=rk) H1.out.box.lt).mono ?_
 rintro e w2 ⟨c2,c3,c5,c6,c7,rfl,hc2,vQ,h5,a5,l5⟩
 have F5:=hid h5
 have C5:=hid (show w.heap.size<=c5/\w.heap.size<=c6/\w.heap.size<=c7/\c7<w2.heap.size/\b1<c5/\w.heap.size<=w2.heap.size from by
  have:=L1.out.size
  have:=l5.size
  have:=HB1.out
  have:=HB2.out
  unfold Es at h5
  exact⟨by omega,by omega,by omega,vQ,by omega,by omega⟩)
 have BX:Hid (b1≠c5/\b1≠c6/\b1≠c7):=by unfold Hid;have:=C5.out;unfold Es at h5;exact⟨by omega,by omega,by omega⟩
 have A2:=hid a5
 have H2:=hid (H1.out.below l5)
 have P2:=hid (P1.out.below l5)
 have G2:=hid (Grow.of (b:=b) (v:=v) (on L1.out l5))
 have Q2:=hid (CV (on L1.out l5) H.out.box.lt Q1.out)
 have HT:=hid H.out.box.lt
 clear a2 hc2 vQ h5 a5 l5 hr2 hr3
 have a3:=P2.out.c3
 simp only at a3
 go_wp2_with fail
 clear a3
 obtain⟨B,hB⟩: ∃B,w2.heap.size=B:=⟨_,rfl⟩
 have gG:=hid hB
 clear hB
 go_loopg [17] M (fun gk vR wr=> ∃(i:Nat) (v1:Value) (laid:Bool) (f e:Nat),vR= .int .i64 i/\Hid (i+gk=M)/\Hid (Lay wr b v1 (L++times (steps p) i L.length))/\Hid (DZ wr b c2 c3 c5 c6 c7 rk laid f e)/\Hid (Cons laid f e (L++times (steps p) i L.length) p)/\Hid (Grow b v v1 w wr)/\Hid (Ad wr b1 ⟨9,t,some ⟨g1,o1,none⟩,1,c,(M:Int),(T:Int)⟩)/\Hid (DF (fun k=>k<b) wr rk p)/\Hid (B<=wr.heap.size))
 case atStart=>exact⟨0,v,false,0,0,rfl,by unfold Hid;omega,by unfold Hid;simp only[times,List.append_nil];exact H2.out,A2,fun q=>by simp at q,G2,P2,Q2,by unfold Hid;have:=gG.out;omega⟩
 case round=>
  obtain⟨i,v1,laid,f,e,rfl,hig,IW,AA,CC,GG,PP,QQ,GS⟩:=hrel
  by_cases hi:i<M
  ·have ti:(i:Int)<(M:Int):=by omega
   have hK4:K<=4000:=mV.out (.inl (Nat.lt_of_le_of_lt (Nat.zero_le _) hi))
   have hlen:=Ba HG.out (by rw[HK.out];exact hK4)
   rw[HK.out]at hlen
   have vS:(i+1)*K<=M*K:=Nat.mul_le_mul_right _ hi
   rw[Nat.succ_mul]at vS
   have hll:(L++times (steps p) i L.length).length=L.length+i*K:=by rw[List.length_append,Cv hlen]
   have HX:Hid (L++times (steps p) (i+1) L.length=L++times (steps p) i L.length++steps p (L++times (steps p) i L.length).length):=by
    unfold Hid
    rw[Ha,hll,Cv hlen,List.append_assoc]
   have HC:=hid (Pm om.out HG.out (by rw[HK.out];exact hK4) IW.out F5.out AA.out CC.out QQ.out (by rw[hll,HK.out];have:=HE.out;have:=HL.out;omega))
   have HI2:=hid hi
   have DT:Hid (wrap64 ((i:Int)+1)=((i+1:Nat):Int)):=by unfold Hid wrap64;have:=HM.out;omega
   clear hll vS hlen hK4 hi
   go_wp2_with fail
   refine HC.out.mono ?_
   rintro e5 w5 ⟨rfl,v5,f5,e5,l5,t5,a5,sU⟩
   rw[<-HX.out]at l5 sU
   have L5:=hid l5
   have A5:=hid a5
   have yV:=hid sU
   have G5:=hid (GG.out.turn t5 C5.out.1 C5.out.2.1 C5.out.2.2.1)
   have P5:=hid (t5.boxed IW.out PP.out B1.out BX.out)
   have Q5:=hid (t5.piece F5.out IW.out QQ.out)
   have S5:=hid (Nat.le_trans GS.out t5.size)
   clear l5 t5 a5 sU
   cases gk with
   |zero=>exact absurd hig.out (by have:=HI2.out;omega)
   |succ g=>
    go_wp2_with fail
    go_roundg g
    case measure=>omega
    case rel=>exact⟨i+1,v5,true,f5,e5,by first|rfl|exact congrArg (Value.int .i64) DT.out,by have:=hig.out;unfold Hid;omega,L5,A5,yV,G5,P5,Q5,S5⟩
  have ti: ¬(i:Int)<(M:Int):=by omega
  have hie:i=M:=by have:=hig.out;omega
  subst hie
  clear hi
  have HLEN:Hid (0<D-> ∀a,(steps p a).length=K):=fun h=>by
   have h1:=Ba HG.out (by rw[HK.out];exact mV.out (.inr h))
   rw[HK.out]at h1
   exact h1
  obtain⟨N,hN⟩: ∃N,(L++times (steps p) i L.length).length=N:=⟨_,rfl⟩
  have J2:N+D*(K+1)=E:=by
   by_cases q:0<i
   ·have h1:=Ba HG.out (by rw[HK.out];exact mV.out (.inl q))
    rw[HK.out]at h1
    have h2:N=L.length+i*K:=by rw[<-hN,List.length_append,Cv h1]
    have:=HE.out
    omega
   obtain rfl:i=0:=by omega
   have h2:N=L.length:=by rw[<-hN];simp[times]
   have:=HE.out
   omega
  obtain⟨Li,RI⟩: ∃Li,L++times (steps p) i L.length=Li:=⟨_,rfl⟩
  have Nv:Hid (L++(times (steps p) i L.length++maybe (steps p) E D (L.length+(times (steps p) i L.length).length))=Li++maybe (steps p) E D N):=by
   unfold Hid
   rw[<-List.length_append,hN,<-List.append_assoc,RI]
  rw[RI]at hN IW CC
  have EN:=hid hN
  have Gl:=hid J2
  have a3:=PP.out.c3
  have a4:=PP.out.c4
  simp only at a3 a4
  have tT:((T:Int)== -1)=false:=by simp
  have hwD:wrap64 ((T:Int)-(i:Int))=(D:Int):=by have:=sV.out;unfold wrap64;omega
  have wh:=hid (show w.heap.size<=B/\B<=wr.heap.size from⟨by have:=C5.out.2.2.2.2.2;have:=gG.out;omega,GS.out⟩)
  clear hN J2 RI
  go_wp2_with fail
  clear a3 a4 hwD tT
  go_loopg [6,46] D (fun gk s6 s46 wr=> ∃(j:Nat) (v1 vj:Value) (laid:Bool) (f e:Nat),s6=vj/\s46= .int .i64 j/\Hid (j+gk=D)/\Hid (Lay wr b v1 (Li++maybe (steps p) 0 j N))/\Hid (D_ B wr vj (Xk K j N))/\Hid (DZ wr b c2 c3 c5 c6 c7 rk laid f e)/\Hid (Cons laid f e (Li++maybe (steps p) 0 j N) p)/\Hid (Grow b v v1 w wr)/\Hid (DF (fun k=>k<b) wr rk p)/\Hid (B<=wr.heap.size))
  case atStart=>exact⟨0,v1,.slice none 0 0,laid,f,e,rfl,rfl,by unfold Hid;omega,by unfold Hid;simp only[maybe,List.append_nil];exact IW.out,D_.nil _ _,AA,by unfold Hid;simp only[maybe,List.append_nil];exact CC.out,GG,QQ,GS⟩
  case round=>
   obtain⟨j,v2,vj,zt,f2,e2,rfl,rfl,TE,HL2,NN,A2b,zu,zw,QQ2,GS2⟩:=hrel
   by_cases hj:j<D
   ·have tj:(j:Int)<(D:Int):=by omega
    have hlen:=HLEN.out (by omega)
    have hK4:K<=4000:=mV.out (.inr (by omega))
    have hjm:(j+1)*(K+1)<=D*(K+1):=Nat.mul_le_mul_right _ hj
    rw[Nat.succ_mul]at hjm
    obtain⟨J,hJ⟩: ∃J,N+j*(K+1)=J:=⟨_,rfl⟩
    have wm:J+(K+1)<=E/\E<=4000:=by have:=Gl.out;have:=HL.out;omega
    obtain⟨Lj,wo⟩: ∃Lj,Li++maybe (steps p) 0 j N=Lj:=⟨_,rfl⟩
    have hl1:Lj.length=J:=by rw[<-wo,List.length_append,EN.out,Gi hlen];exact hJ
    have HX:Hid (Li++maybe (steps p) 0 (j+1) N=Lj++ [(⟨6,⟨#[]⟩,((J+1:Nat):Int),0⟩:AL)]++steps p (J+1)):=by
     unfold Hid
     rw[JS hlen,hJ,<-List.append_assoc,wo,List.append_assoc];rfl
    have HMS:Hid (Xk K (j+1) N=Xk K j N++ [J]):=by unfold Hid;rw[Xl,hJ]
    have oh:Hid ((Xk K j N).length<=4000):=by unfold Hid;rw[VU];have:=sV.out;omega
    rw[wo]at HL2 zu
    have wu:=hid hl1
    have zx:=hid wm
    have HJ2:=hid hj
    have DT:Hid (wrap64 ((j:Int)+1)=((j+1:Nat):Int)):=by unfold Hid wrap64;have:=sV.out;omega
    clear hlen hjm hJ wm wo hl1 hj
    go_wp2_with fail
    refine(F9 HL2.out (by rw[wu.out];have:=zx.out;omega) 6 ⟨#[]⟩).mono ?_
    rintro e5 w5 ⟨rfl,v5,l5,g5⟩
    rw[wu.out]
    rw[wu.out]at l5
    have L5:=hid l5
    have A5:=hid (A2b.out.grow F5.out HL2.out g5)
    have yX:=hid (zu.out.more [(⟨6,⟨#[]⟩,((J+1:Nat):Int),0⟩:AL)])
    have G5:=hid (zw.out.trans g5)
    have Q5:=hid (g5.piece HL2.out QQ2.out)
    have N5:=hid (NN.out.grow HL2.out (Nat.lt_of_lt_of_le HT.out wh.out.1) g5)
    have S5:=hid (Nat.le_trans GS2.out g5.size)
    have hl5:(Lj++ [(⟨6,⟨#[]⟩,((J+1:Nat):Int),0⟩:AL)]).length=J+1:=by rw[List.length_append,wu.out];rfl
    have vT:=hid hl5
    clear l5 g5 hl5
    go_wp2_with (first
     |(refine Ih (n:=J) rfl (.tmp 50) rfl rfl ?_;intro w8 b8 e8 p8 l8 z8;have L8:=hid l8;have P8:=hid p8;clear e8 p8 l8 z8)
     |(refine Gt rfl (.tmp 48) (.tmp 51) rfl rfl rfl (N5.out.below L8.out) P8.out (by have:=oh.out;simp only[List.length_cons,List.length_nil];omega) (Nat.le_trans S5.out L8.out.size) ?_;intro vn w9 o9 p9;have N9:=hid o9;have P9:=hid p9;clear o9 p9))
    have N8:=hid (N5.out.below L8.out)
    have BB:=hid (show b<B/\c7<B from⟨Nat.lt_of_lt_of_le HT.out wh.out.1,by have:=C5.out;have:=gG.out;omega⟩)
    have H9:=hid ((L5.out.below L8.out).XH N8.out BB.out.1 P9.out)
    have A9:=hid ((A5.out.below L8.out).nums F5.out N8.out BB.out.2 P9.out)
    have G9:=hid ((G5.out.trans (Grow.of L8.out)).put P9.out fun k hk=>Nat.le_trans wh.out.1 (N8.out.lt k hk).1)
    have Q8:=hid (CV L8.out L5.out.box.lt Q5.out)
    have Q9:Hid (DF (fun k=>k<b) w9 rk p):=by
     have g5:=P9.out.grown.block
     exact Q8.out.keep (fun _ q=>q) fun a (q:a.block<b)=>AO (g5 _ (Nat.lt_trans q (L5.out.below L8.out).box.lt) (fun q2=>by have:=(N8.out.lt _ q2.symm).1;have:=BB.out.1;omega))
    have S9:=hid (Nat.le_trans S5.out (Nat.le_trans L8.out.size P9.out.grown.size))
    have HC:=hid (Pm om.out HG.out (by rw[HK.out];exact hK4) H9.out F5.out A9.out yX.out Q9.out (by rw[vT.out,HK.out];have:=zx.out;omega))
    clear hK4
    go_wp2_with fail
    refine HC.out.mono ?_
    rintro e6 w6 ⟨rfl,v6,f6,e6,l6,t6,a6,yY⟩
    rw[vT.out,<-HX.out]at l6 yY
    have L6:=hid l6
    have A6:=hid a6
    have CC6:=hid yY
    have G6:=hid (G9.out.turn t6 C5.out.1 C5.out.2.1 C5.out.2.2.1)
    have Q6:=hid (t6.piece F5.out H9.out Q9.out)
    have S6:=hid (Nat.le_trans S9.out t6.size)
    have N6:Hid (D_ B w6 vn (Xk K (j+1) N)):=by unfold Hid;rw[HMS.out];exact D_.turn N9.out F5.out BB.out.2 H9.out t6
    clear l6 t6 a6 yY
    cases gk with
    |zero=>exact absurd TE.out (by have:=HJ2.out;omega)
    |succ g=>
     go_wp2_with fail
     go_roundg g
     case measure=>omega
     case rel=>exact⟨j+1,v6,vn,true,f6,e6,rfl,by first|rfl|exact congrArg (Value.int .i64) DT.out,by have:=TE.out;unfold Hid;omega,L6,N6,A6,CC6,G6,Q6,S6⟩
   have tj: ¬(j:Int)<(D:Int):=by omega
   have vN:j=D:=by have:=TE.out;omega
   subst vN
   obtain⟨M0,hM0⟩: ∃M0,Xk K j N=M0:=⟨_,rfl⟩
   have Yc:M0.length=j:=by rw[<-hM0,VU]
   rw[hM0]at NN
   obtain⟨Aj,cj,rfl,RZ,Ra⟩:=NN.out.recs.form
   unfold maxLen at Ra
   rw[Yc]at RZ NN ⊢
   have og:=hid (show j<=cj/\cj<=9223372036854775807 from⟨RZ,Ra⟩)
   have yJ:=hid hM0
   have oh:=hid Yc
   have HA2:Hid (Li++maybe (steps p) 0 j N=Li++(maybe (steps p) E 0 N++maybe (steps p) 0 (j-0) (N+0*(K+1)))):=by
    unfold Hid
    simp only[maybe,List.nil_append,Nat.sub_zero,Nat.zero_mul,Nat.add_zero]
   clear hj Yc hM0
   go_wp2_with fail
   clear RZ Ra
   go_loopg [58] j (fun gk s58 wr=> ∃(k:Nat) (vL:Value),s58= .int .i64 k/\Hid (k+gk=j)/\Hid (Lay wr b vL (Li++(maybe (steps p) E k N++maybe (steps p) 0 (j-k) (N+k*(K+1)))))/\Hid (D_ B wr (.slice Aj j cj) M0)/\Hid (Grow b v vL w wr))
   case atStart=>exact⟨0,v2,rfl,by unfold Hid;omega,by unfold Hid;rw[<-HA2.out];exact HL2.out,NN,zw⟩
   case round=>
    obtain⟨k,vL,rfl,hkg,S_,N3,G3⟩:=hrel
    have RZ:=og.out.1
    have Ra:=og.out.2
    by_cases hk:k<j
    ·have tk:(k:Int)<(j:Int):=by omega
     have hlen:=HLEN.out (by omega)
     obtain⟨hX1,hX2⟩:=jr hlen E hk N
     obtain⟨gj,cj2,yK,-,-,-,-⟩:=BL N3.out (by rw[oh.out];omega)
     injection yK with hv1 hv2 hv3
     subst hv1
     obtain⟨J,hJ⟩: ∃J,N+k*(K+1)=J:=⟨_,rfl⟩
     have zz:(k+1)*(K+1)<=j*(K+1):=Nat.mul_le_mul_right _ hk
     rw[Nat.succ_mul]at zz
     have wm:J+(K+1)<=E/\E<=4000:=by have:=Gl.out;have:=HL.out;omega
     have hcell:wr.cell? ⟨gj,k,none⟩=some (.int .i64 (J:Nat)):=by
      have h1:k<M0.length:=by rw[oh.out];exact hk
      have h2:=GZ Ct M0 k h1 0 (by decide)
      have h3:M0[k]=J:=by
       have:=bC K j N k hk
       rw[yJ.out,List.getElem?_eq_getElem h1,hJ]at this
       exact Option.some.inj this
      have h4:=N3.out
      unfold D_ at h4
      rw[oh.out]at h4
      have h5:=h4.cellAt k (by omega)
      rw[Nat.mul_one,Nat.add_zero]at h2
      rw[h5,h2,h3];rfl
     rw[hX1,hJ,<-List.append_assoc]at S_
     rw[hJ]at hX2
     obtain⟨X,hX⟩: ∃X,Li++maybe (steps p) E k N=X:=⟨_,rfl⟩
     obtain⟨Z,hZ⟩: ∃Z,steps p (J+1)++maybe (steps p) 0 (j-(k+1)) (N+(k+1)*(K+1))=Z:=⟨_,rfl⟩
     rw[hX,hZ]at S_
     have w_:X.length=J:=by rw[<-hX,List.length_append,EN.out,Gi hlen];exact hJ
     have bD:(X++Bv.split (J+1) 0::Z).length=E:=by
      have h1:Z.length=K+(j-(k+1))*(K+1):=by rw[<-hZ,List.length_append,hlen,Gi hlen]
      have h2:(j-(k+1))*(K+1)+(k+1)*(K+1)=j*(K+1):=by rw[<-Nat.add_mul];congr 1;omega
      rw[Nat.succ_mul]at h2
      have:=Gl.out
      simp only[List.length_append,List.length_cons,w_,h1]
      omega
     obtain⟨gs,cs,vK,hq1,hq2⟩:=S_.out.shape (by rw[bD];omega)
     rw[bD]at vK hq1
     subst vK
     have D3:=hid (below_draws wr 1)
     have jm:=hid (S_.out.below D3.out)
     have HH:Hid (Calls Tryz.prog 133 #[.pointer (some ⟨b,0,none⟩)] (wr.drewN 1) fun e w'=>e= .returned (.int .i64 E)/\w'=wr.drewN 1):=by
      have h1:=ES jm.out
      rw[bD]at h1
      exact h1
     have S0:Hid ((wr.drewN 1).cell? ⟨b,0,none⟩=some (.slice (some ⟨gs,0,none⟩) E cs)):=jm.out.box.c0
     obtain⟨-,f2,f3⟩:=jm.out.field w_
     have f3:=f3 (J*4+3)
     unfold Bv.split at f2
     simp only at f2
     have SET:=jm.out.rJ (E:Int)
     rw[w_]at SET
     have HX:=hid SET
     have SE:Hid (((wr.drewN 1).setCell ⟨gs,J*4+3,none⟩ (.int .i64 E)).cell? ⟨b,0,none⟩=some (.slice (some ⟨gs,0,none⟩) E cs)):=SET.1.box.c0
     have tq:(J:Int)<(E:Int):=by omega
     have vM:Hid (Li++(maybe (steps p) E (k+1) N++maybe (steps p) 0 (j-(k+1)) (N+(k+1)*(K+1)))=X++Bv.split (J+1) E::Z):=by
      unfold Hid
      rw[hX2,<-List.append_assoc,hX,hZ]
     have hwk:Hid (wrap64 ((k:Int)+1)=((k+1:Nat):Int)):=by unfold Hid wrap64;have:=og.out;omega
     have HJ2:=hid hk
     have BB:=hid (show b<B from Nat.lt_of_lt_of_le HT.out wh.out.1)
     clear SET hX1 hX2 hJ hlen bD hv2 hv3 hk wm zz w_ hX hZ hq1 hq2
     go_wp2_with fail
     refine wp_region_held_drew (S:=fun w'=>w'.cell? ⟨b,0,none⟩=some (.slice (some ⟨gs,0,none⟩) E cs)) (by kernel_rfl) S0.out (fun hHeld=> ?_)
     refine Take.k 0 ⟨some 62,.move (.tmp 0),_,_,_,none⟩ ?_
     refine Take.k 1 ⟨some 63,.nilCheck (.tmp 62),_,_,_,none⟩ ?_
     refine Take.k 2 ⟨some 64,.fieldAddr 104 (.tmp 63) 0,_,_,_,none⟩ ?_
     refine Take.k 3 ⟨some 65,.load 46 (.tmp 64),_,_,_,none⟩ ?_
     refine Take.k 4 ⟨some 66,.move (.tmp 8),_,_,_,none⟩ ?_
     refine Take.k 5 ⟨some 67,.move (.tmp 0),_,_,_,none⟩ ?_
     refine wpAnyH_ready (rs:= [6]) (by kernel_rfl) (by simp) ?_
     refine AllReadyH.cons (o:=⟨some 68,.call ⟨.value (.func 133), #[.tmp 67], #[99]⟩,_,_,_,none⟩) rfl (fun K hK=> ?_) AllReadyH.nil
     go_simp
     (go_at_call 133;refine HH.out.mono ?_;rintro e x1 ⟨rfl,rfl⟩)
     go_wp2_with fail
     refine hK.out _ _ ?_ (fun hHeld=> ?_)
     ·exact S0.out
     clear hK K
     try simp only[Act.put,Take.a,Take.b,Take.c]
     refine Take.k 7 ⟨some 69,.indexAddr 46 (.tmp 65) (.tmp 66),_,_,_,none⟩ ?_
     refine Take.k 8 ⟨some 70,.fieldAddr 106 (.tmp 69) 3,_,_,_,none⟩ ?_
     refine wpAnyH_ready (rs:= [9]) (by kernel_rfl) (by simp) ?_
     refine AllReadyH.cons (o:=⟨none,.store 3 (.tmp 70) (.tmp 68),_,_,_,none⟩) rfl (fun K hK=> ?_) AllReadyH.nil
     go_simp
     skip
     go_wp2_with fail
     refine hK.out _ _ ?_ (fun hHeld=> ?_)
     ·exact SE.out
     clear hK K
     try simp only[Act.put,Take.a,Take.b,Take.c]
     refine wpAnyH_done (by kernel_rfl) ?_ _
     have H5:Hid (Lay ((wr.drewN 1).setCell ⟨gs,J*4+3,none⟩ (.int .i64 E)) b (.slice (some ⟨gs,0,none⟩) E cs) (Li++(maybe (steps p) E (k+1) N++maybe (steps p) 0 (j-(k+1)) (N+(k+1)*(K+1))))):=by unfold Hid;rw[vM.out];exact HX.out.1
     have N5:=hid ((D_.below N3.out D3.out).grow jm.out BB.out HX.out.2)
     have G5:=hid ((G3.out.trans (Grow.of D3.out)).trans HX.out.2)
     clear f2 f3 tq hcell
     cases gk with
     |zero=>exact absurd hkg.out (by have:=HJ2.out;omega)
     |succ g=>
      go_wp2_with fail
      go_roundg g
      case measure=>omega
      case rel=>exact⟨k+1,_,by first|rfl|exact congrArg (Value.int .i64) hwk.out,by have:=hkg.out;unfold Hid;omega,H5,N5,G5⟩
    have tk: ¬(k:Int)<(j:Int):=by omega
    have hke:k=j:=by have:=hkg.out;omega
    subst hke
    have yL:Hid (Lay wr b vL (L++(times (steps p) i L.length++maybe (steps p) E k (L.length+(times (steps p) i L.length).length)))):=by
     unfold Hid
     have h1:=S_.out
     rw[Nat.sub_self]at h1
     simp only[maybe,List.append_nil]at h1
     rw[Nv.out]
     exact h1
    clear hk
    go_wp2_with fail
    go_end0
    exact⟨rfl,vL,yL.out,G3.out⟩
end EH
namespace EH
open Strs Al Bv
open Cj (Piece size sizes)
open W14 (Raw Ea Ak Co DF FT Ad)
theorem j3 {k:Int} {t:ByteArray} (hk:1<=k/\k<=6):Mh (Cj.leaf k t):=by
 intro w b v L r h hp hl
 have hL:L.length<=900000:=by omega
 have hp2:=hp
 unfold Cj.leaf at hp2
 obtain⟨A,c,Ag,rfl,k1⟩:=EW hp2
 rw[Gp hk]
 have:k=1\/k=2\/k=3\/k=4\/k=5\/k=6:=by omega
 rcases this with rfl|rfl|rfl|rfl|rfl|rfl
 ·rw[if_pos rfl,List.append_nil]
  exact cO h hp fun w h1 _=>cB h1 _
 ·exact iI h hp fun w h1 _=>iH h1 hL _
 ·exact nO h hp fun w h1 _=>nM h1 hL _
 ·exact nP h hp fun w h1 _=>VB h1 hL _
 ·exact cZ h hp fun w h1 _=>cK h1 hL _
 exact nQ h hp fun w h1 _=>nN h1 hL _
theorem vV {p:Piece} (h:Bv.Good p):Mh p:=by
 induction h with
 |leaf k t h=>exact j3 h
 |many k hk ks h2 hw ih=>
  intro w b v L r h hp hl
  obtain⟨A,c,Ag,rfl,k1⟩:=EW hp
  have IH: ∀i (hi:i<ks.length),Mh ks[i]:=fun i hi=>ih ks[i] (List.getElem_mem hi)
  rcases hk with rfl|rfl
  ·rw[Bv.QR]at hl
   have hs: ∀q,q∈ks-> ∀a,(steps q a).length=size q:=fun q hq=>Ba (hw q hq) (by have:=Bv.EP hq;omega)
   rw[MR]
   exact nR h hp fun w h1 h2=>by
    obtain⟨A',c',j4,e,k2⟩:=EW h2
    cases e
    exact ng IH hs h1 k2 (by omega)
  rw[MS]
  have hsz:=Bv.QS no ks 0 0
  obtain⟨S,hS⟩: ∃S,size (.mk 8 no ks 0 0)=S:=⟨_,rfl⟩
  rw[hS]at hl hsz ⊢
  have hs: ∀q,q∈ks-> ∀a,(steps q a).length=size q:=fun q hq=>Ba (hw q hq) (by have:=Bv.EP hq;omega)
  obtain⟨n,hn⟩: ∃n,ks.length=n+1:=⟨ks.length-1,by omega⟩
  exact nS h hp fun w h1 h2=>by
   obtain⟨A',c',j4,e,k2⟩:=EW h2
   cases e
   have hE:L.length+(sizes ks+2*n)=L.length+S:=by
    rw[hn]at hsz
    omega
   exact oZ IH hs h1 k2 hn hE (by omega)
 |rep p m t hm ht hw ih=>
  intro w b v L r h hp hl
  obtain⟨A,c,Ag,rfl,k1⟩:=EW hp
  rw[MU]
  have hsz:=Bv.II no p m t
  obtain⟨S,hS⟩: ∃S,size (.mk 9 no [p] m t)=S:=⟨_,rfl⟩
  have sW:=fun hu=>Bv.MQ (p:=p) (t:=no) (m:=m) (tp:=t) (by rw[hS];omega) hu hm.1
  rw[hS]at hl hsz ⊢
  obtain⟨M,rfl⟩: ∃M:Nat,m=(M:Int):=⟨m.toNat,by omega⟩
  unfold LC
  rw[Int.toNat_natCast]at hsz ⊢
  by_cases q:t= -1
  ·subst q
   rw[if_pos rfl]at hsz ⊢
   exact Qf h hp fun w h1 h2=>by
    obtain⟨A',c',j4,e,k2⟩:=EW h2
    cases e
    exact jv ih hw h1 k2 (by omega) (E:=L.length+S) (by omega) (by omega)
  rw[if_neg q]at hsz ⊢
  obtain⟨T,rfl⟩: ∃T:Nat,t=(T:Int):=⟨t.toNat,by omega⟩
  obtain⟨D,hD⟩: ∃D,M+D=T:=⟨T-M,by omega⟩
  have yZ:((T:Int)-(M:Int)).toNat=D:=by omega
  rw[yZ]at hsz ⊢
  exact Qf h hp fun w h1 h2=>by
   obtain⟨A',c',j4,e,k2⟩:=EW h2
   cases e
   exact jw ih hw h1 k2 (by omega) ⟨hD,by omega⟩ (E:=L.length+S) (by omega) (by omega) (fun hu=>sW (by omega))
end EH
namespace EH
open Strs Al Bv
open Cj (Piece size sizes)
open W14 (Raw Ea Ak Co DF FT Ad Be AZ AV AU Bi)
open Kit (below_draws on)
theorem Rb {P:Program} {w:World} {a:Addr} {m:Mode}:(store a .nilFunc m).run P w=stored P w a .nilFunc m:=run_store P w a _ m rfl
theorem Za {P:Program} {w:World} {a:Addr} {m:Mode} {f:Fn} {x y:Array Value}:(store a (.func f x y) m).run P w=stored P w a (.func f x y) m:=run_store P w a _ m rfl
attribute [local go_sem] Rb Za
theorem oo (w:World):Calls Tryz.prog 76 #[] w fun e w'=>e= .returned (.pointer (some ⟨w.heap.size,0,none⟩))/\Lay w' w.heap.size (.slice none 0 0) []/\Below w.heap.size w w':=by
 go_enter Tryz.func76,Tryz.ntmps76
 go_wp2_with fail
 go_ret
 exact⟨rfl,⟨heap_alloc_new w _,World.ownsRow_nil _ _ _ _⟩,AZ w _⟩
theorem Grow.j5 {w w':World} {b B:Nat} {v v':Value} {L:List AL} (h:Grow b v v' w w') (hl:Lay w b v L) (hB:B<=b):Below B w w':=
 ⟨h.os,h.tape,h.output,h.size,fun k hk=>h.keeps hl (by omega)⟩
def Gives (w:World) (P:List AL) (e:Ending) (w':World):Prop:= ∃v,e= .returned (.tuple #[v,.int .i64 0])/\w'.ownsRow w.heap.size 106 4 v P.length (P.flatMap CZ)/\Below w.heap.size w w'
def Fails (w:World) (er:Int) (e:Ending) (w':World):Prop:=e= .returned (.tuple #[.slice none 0 0,.int .i64 er])/\Below w.heap.size w w'
theorem Zb {r:Raw} {p:Piece} {w:World} (hR: ∀w1,Below w.heap.size w w1->Calls Tryz.prog 75 #[.agg (Ak r)] w1 fun e w'=>e= .returned (.bool true)/\Below w1.heap.size w1 w') (hg:Bv.Good p) (hs:size p<=4000) (hp:Be w r p):Calls Tryz.prog 45 #[.agg (Ak r)] w (Gives w (prog p)):=by
 have HR:=hid hR
 have HP:=hid hp
 have HC:=hid (vV hg)
 have HS:=hid hs
 have Pj:=hid (Ba hg hs 0)
 clear hR hg hs hp
 go_enter Tryz.func45,Tryz.ntmps45
 go_wp2_with (first
  |(refine AV (r:=r) rfl (.tmp 0) rfl rfl ?_;intro w1 b1 e1 p1 l1 z1;have P1:=hid p1;have L1:=hid l1;clear e1 p1 l1 z1)
  |(refine AU (r:=r) rfl (.tmp 1) rfl rfl P1.out ?_))
 refine(HR.out _ L1.out).mono ?_
 rintro e w2 ⟨rfl,l2⟩
 have L2:=hid (on L1.out l2)
 have P2:=hid (P1.out.below l2)
 clear l2
 go_wp2_with fail
 refine(oo w2).mono ?_
 rintro e w3 ⟨rfl,h3,l3⟩
 have L3:=hid (on L2.out l3)
 have P3:=hid (P2.out.below l3)
 have H3:=hid h3
 have Q3:Hid (DF (fun k=>k<w2.heap.size) w3 r p):=HP.out.keep (fun k q=>Nat.lt_of_lt_of_le q L2.out.size) fun a q=>W14.AO (L3.out.block _ q)
 have HB:=hid L2.out.size
 clear h3 l3
 obtain⟨b,hb⟩: ∃b,w2.heap.size=b:=⟨_,rfl⟩
 rw[hb]at H3 Q3 HB ⊢
 clear hb
 go_wp2_with (first
  |(refine AU (r:=r) rfl (.tmp 1) rfl rfl P3.out ?_))
 refine(HC.out w3 b _ [] r H3.out Q3.out (by simp only[List.length_nil];have:=HS.out;omega)).mono ?_
 rintro e w4 ⟨rfl,v4,h4,g4⟩
 rw[List.nil_append]at h4
 have H4:=hid h4
 have L4:=hid (L3.out.trans (g4.j5 H3.out HB.out))
 have c0:=h4.box.c0
 clear h4 g4
 go_wp2_with (first
  |(refine C_ (r:=⟨7,⟨#[]⟩,0,0⟩) rfl (.tmp 16) rfl rfl ?_;intro w5 b5 e5 p5 l5 z5 o5;have P5:=hid p5;have L5:=hid l5;clear e5 p5 l5 z5 o5)
  |(refine CU rfl (.tmp 15) (.tmp 17) rfl rfl rfl (H4.out.below L5.out).own P5.out (by simp only[List.length_cons,List.length_nil];rw[Pj.out];have:=HS.out;omega) (Nat.le_trans H4.out.box.lt L5.out.size) ?_;intro v' w6 o6 p6;have O6:=hid o6;have P6:=hid p6;clear o6 p6))
 go_ret2
 have hg:=P6.out.grown
 refine⟨v',rfl,O6.out.mono (Nat.le_succ_of_le HB.out),(on L4.out L5.out).trans ⟨hg.os,hg.tape,hg.output,hg.size,fun k hk=>hg.block k (Nat.lt_of_lt_of_le hk (on L4.out L5.out).size) fun q=> ?_⟩⟩
 have:=(H4.out.EI k q.symm).1
 have:=HB.out
 omega
end EH
namespace W14
open Strs Al Cj
open Kit (below_draws on)
def Jg (p:Piece):Prop:= ∀(w:World) (r:Raw),Be w r p->Calls Tryz.prog 44 #[.agg (Ak r)] w (RA w p)
theorem dm {a:Int} {n:Nat} (h:a=(n:Int)) (hn:n<=9000000):wrap64 a=(n:Int):=by subst h;unfold wrap64;omega
theorem Zc {m t:Int} (h:ax m t):Fb m t=true:=by
 obtain⟨⟨h1,h2⟩,h3⟩:=h
 unfold Fb
 rcases h3 with h3|⟨h3,h4⟩<;>simp[*]
def bE (w:World) (N0:Nat) (e:Ending) (w':World):Prop:= ∃N:Nat,e= .returned (.int .i64 N)/\Hid (min 4001 N=min 4001 N0)/\Hid (N<=4000000)/\Below w.heap.size w w'
theorem Rc {ks:List Piece} (IH: ∀i (hi:i<ks.length),Jg ks[i]) {w:World} {A:Option Addr} {c:Nat} {Ag:List Raw} (k1:Kids w A c Ag ks):Calls Tryz.prog 73 #[.slice A ks.length c] w (bE w (sizes ks)):=by
 have HI:=hid IH
 have hr1:=k1.room.1
 have hr2:=k1.room.2
 have K1:=hid k1
 have HR:=hid (show ks.length<=c/\c<=9223372036854775807 from⟨hr1,hr2⟩)
 clear IH k1
 go_enter Tryz.func73,Tryz.ntmps73
 go_wp2_with fail
 clear hr1 hr2
 go_loopg [3,8] ks.length (fun gk s3 s8 wr=> ∃i n:Nat,s3= .int .i64 n/\s8= .int .i64 i/\Hid (n=sizes (ks.take i))/\Hid (n<=4000)/\Hid (i+gk=ks.length)/\Hid (Kids wr A c Ag ks)/\Hid (Below w.heap.size w wr))
 case atStart=>exact⟨0,0,rfl,rfl,rfl,Nat.zero_le _,by unfold Hid;omega,K1,Below.refl _ _⟩
 case round=>
  obtain⟨i,n,rfl,rfl,hn,hnl,hig,K1,HB⟩:=hrel
  have hn1:=HR.out.1
  have hn2:=HR.out.2
  by_cases hi:i<ks.length
  ·have ti:(i:Int)<(ks.length:Int):=by omega
   obtain⟨g1,o1,rfl,C1⟩:=K1.out.at_ (Nat.lt_of_le_of_lt (Nat.zero_le _) hi)
   obtain⟨hr1,q1⟩:=K1.out.kid hi
   have E1:=hid (C1 i hr1)
   have Q1:=hid q1
   have HS:=hid (size_le (ks[i]'hi))
   have HT:=hid (Yr hi)
   have HI2:=hid hi
   obtain⟨rk,Hy⟩: ∃rk,Ag[i]'hr1=rk:=⟨_,rfl⟩
   rw[Hy]at E1 Q1
   have HC:=hid (fun(w:World) (h:Be w rk (ks[i]'hi))=>HI.out i hi w rk h)
   obtain⟨m,hm⟩: ∃m,size (ks[i]'hi)=m:=⟨_,rfl⟩
   have HM:=hid hm
   rw[hm]at HS HT
   clear C1 q1 hm Hy
   go_wp2_with (first
    |(refine Aq rfl (.tmp 10) rfl rfl (r:=rk) E1.out ?_)
    |(refine AJ rfl rfl ?_;intro w3 b3 e3 p3 l3 z3)
    |(refine AB (r:=rk) rfl (.tmp 5) (.tmp 11) rfl rfl rfl p3 ?_;intro w4 p4 l4 z4;have L4:=hid (AY l3 l4 e3);have P4:=hid p4;clear e3 p3 l3 z3 p4 l4 z4)
    |(refine AU (r:=rk) rfl (.tmp 5) rfl rfl P4.out ?_))
   refine(HC.out _ (Q1.out.below L4.out)).mono ?_
   rintro e w5 ⟨rfl,l5⟩
   rw[HM.out]
   have K5:=hid ((K1.out.below L4.out).below l5)
   have B5:=hid (HB.out.trans ((L4.out.trans (l5.mono L4.out.size)).mono HB.out.size))
   obtain⟨s,hs⟩: ∃s,n+m=s:=⟨_,rfl⟩
   have hw:Hid (wrap64 ((n:Int)+(m:Int))=(s:Int)):=CR (by rw[<-hs,Int.natCast_add]) (by have:=HS.out;have:=hnl.out;omega)
   have qV:Hid (s=sizes (ks.take (i+1))/\s<=8001):=⟨by rw[HT.out,<-hn.out];exact hs.symm,by have:=HS.out;have:=hnl.out;omega⟩
   have DT:Hid (wrap64 ((i:Int)+1)=((i+1:Nat):Int)):=by unfold Hid wrap64;omega
   have HW:=hw
   clear l5 hs hn hnl HS HT HM
   by_cases hbig:4001<=s
   ·have tb:(4001:Int)<=(s:Int):=by omega
    have HEQ:Hid (min 4001 s=min 4001 (sizes ks)):=by
     have h1:=Cz ks (i+1)
     rw[<-qV.out.1]at h1
     unfold Hid;omega
    have vW:Hid (s<=4000000):=Nat.le_trans qV.out.2 (by decide)
    replace hw:=hw.out
    clear hbig
    go_wp2_with fail
    go_ret
    exact⟨s,by first|rfl|exact congrArg (fun x=>Ending.returned (Value.int .i64 x)) HW.out,HEQ,vW,B5.out⟩
   have tb: ¬(4001:Int)<=(s:Int):=by omega
   have vW:Hid (s<=4000):=by unfold Hid;omega
   cases gk with
   |zero=>exact absurd hig.out (by have:=HI2.out;omega)
   |succ g=>
    replace hw:=hw.out
    replace DT:=DT.out
    have rz:=hid DT
    clear hbig
    go_wp2_with fail
    go_roundg g
    case measure=>omega
    case rel=>exact⟨i+1,s,by first|rfl|exact congrArg (Value.int .i64) HW.out,by first|rfl|exact congrArg (Value.int .i64) rz.out,qV.out.1,vW,by have:=hig.out;unfold Hid;omega,K5,B5⟩
  have ti: ¬(i:Int)<(ks.length:Int):=by omega
  have hie:i=ks.length:=by have:=hig.out;omega
  have HE:Hid (n=sizes ks):=by have:=hn.out;rw[hie,List.take_length]at this;exact this
  have vW:Hid (n<=4000000):=Nat.le_trans hnl.out (by decide)
  clear hie
  go_wp2_with fail
  go_ret
  exact⟨n,rfl,by rw[HE.out];rfl,vW,HB.out⟩
theorem JU {m t:Int} (h:ax m t) {A:Option Addr} {c:Nat} (hc:1<=c/\c<=9223372036854775807) (w:World):Calls Tryz.prog 97 #[.agg (Ak ⟨9,⟨#[]⟩,A,1,c,m,t⟩)] w fun e w'=>e= .returned (.bool true)/\Below w.heap.size w w':=by
 have hc1:=hc.1
 have hc2:=hc.2
 have HM:Hid (∀w,Calls Tryz.prog 129 #[.int .i64 m,.int .i64 t] w fun e w'=>e= .returned (.bool true)/\w'=w):=fun w=>by
  have:=Fe m t w
  rw[Zc h]at this
  exact this
 clear hc h
 go_enter Tryz.func97,Tryz.ntmps97
 go_wp2_with (first
  |(refine AV (r:=⟨9,⟨#[]⟩,A,1,c,m,t⟩) rfl (.tmp 0) rfl rfl ?_;intro w1 b1 e1 p1 l1 z1;have a1:=p1.c1;have a2:=p1.c2;have a3:=p1.c3;have a4:=p1.c4;have L1:=hid l1;clear e1 p1 l1 z1;simp only at a1 a2 a3 a4))
 refine(HM.out _).mono ?_
 rintro e w2 ⟨rfl,rfl⟩
 go_wp2_with fail
 go_ret
 exact⟨rfl,L1.out⟩
theorem TF {p:Piece} {M:Nat} (hM:M<=100) (IH:Jg p) {w:World} {r:Raw} (h:Be w r (.mk 9 ⟨#[]⟩ [p] M (-1))):Calls Tryz.prog 74 #[.agg (Ak r)] w (bE w (size (.mk 9 ⟨#[]⟩ [p] M (-1)))):=by
 rw[XV]
 obtain⟨A,c,Ag,rfl,k1⟩:=h.parts
 have hr:1<=c/\c<=9223372036854775807:=k1.room
 obtain⟨g1,o1,rfl,C1⟩:=k1.at_ (Nat.lt_succ_self 0)
 obtain⟨hr1,q1⟩:=k1.kid (i:=0) (Nat.lt_succ_self 0)
 have HG:=hid (k1.2.1 _ rfl (Nat.lt_of_le_of_lt (Nat.zero_le _) hr1))
 have E1:=C1 0 hr1
 obtain⟨rk,Hy⟩: ∃rk,Ag[0]=rk:=⟨_,rfl⟩
 rw[Hy]at E1 q1
 have Q1:Hid (Be w rk p):=q1
 rw[show o1+0*5=o1 by omega]at E1
 have E1:=hid E1
 have HI:=hid (fun(w:World) (h:Be w rk p)=>IH w rk h)
 have HO:=hid (fun w=>JU (m:=(M:Int)) (t:=(-1)) ⟨by omega,by omega⟩ (A:=some ⟨g1,o1,none⟩) hr w)
 have hS:=size_le p
 obtain⟨K,hK⟩: ∃K,size p=K:=⟨_,rfl⟩
 have HK:=hid hK
 rw[hK]at hS ⊢
 have ZQ:=Fj (a:=M) (b:=K) (by omega) (by omega)
 obtain⟨P,hP⟩: ∃P,M*K=P:=⟨_,rfl⟩
 rw[hP]at ZQ
 have hw1:Hid (wrap64 ((M:Int)*(K:Int))=(P:Int)):=CR (by rw[<-Int.natCast_mul,hP]) (Nat.le_trans ZQ (by decide))
 replace hP:=hid hP
 obtain⟨P2,hP2⟩: ∃P2,P+K=P2:=⟨_,rfl⟩
 have hw2:Hid (wrap64 ((P:Int)+(K:Int))=(P2:Int)):=CR (by rw[<-hP2,Int.natCast_add]) (by omega)
 obtain⟨N,hN⟩: ∃N,P2+2=N:=⟨_,rfl⟩
 have hw3:Hid (wrap64 ((P2:Int)+2)=(N:Int)):=CR (by rw[<-hN,Int.natCast_add];rfl) (by omega)
 have yc:Hid (N<=4000000):=by unfold Hid;omega
 have HE:Hid (min 4001 (if(-1:Int)= -1 then M*K+K+2 else M*K+(-1-(M:Int)).toNat*(K+1))=min 4001 N):=by
  unfold Hid
  rw[if_pos rfl,hP.out,hP2,hN]
 rw[HE.out]
 have qU:=hw3
 have Nv:Hid (min 4001 N=min 4001 (min 4001 N)):=by unfold Hid;omega
 have hc1:=hr.1
 have hc2:=hr.2
 clear h k1 C1 q1 Hy hr1 IH hK hS ZQ hr HE hM hN hP2
 go_enter Tryz.func74,Tryz.ntmps74
 go_wp2_with (first
  |(refine AV (r:=⟨9,⟨#[]⟩,some ⟨g1,o1,none⟩,1,c,(M:Int),(-1)⟩) rfl (.tmp 0) rfl rfl ?_;intro w1 b1 e1 p1 l1 z1;have P1:=hid p1;have L1:=hid l1;clear e1 p1 l1 z1)
  |(refine AU (r:=⟨9,⟨#[]⟩,some ⟨g1,o1,none⟩,1,c,(M:Int),(-1)⟩) rfl (.tmp 1) rfl rfl P1.out ?_))
 refine(HO.out _).mono ?_
 rintro e w2 ⟨rfl,l2⟩
 have RH:=hid (P1.out.below l2)
 have L2:=hid (L1.out.trans (l2.mono L1.out.size))
 have E2:Hid (∀j,j<5->w2.cell? ⟨g1,o1+j,none⟩=(Co rk)[j]?):=fun j hj=>(AO (L2.out.block g1 HG.out)).trans (E1.out j hj)
 have Q2:=hid (Q1.out.below L2.out)
 have a2:=RH.out.c2
 simp only at a2
 clear l2
 go_wp2_with (first|(refine Aq rfl (.tmp 10) rfl rfl (r:=rk) E2.out ?_))
 refine(HI.out _ Q2.out).mono ?_
 rintro e w3 ⟨rfl,l3⟩
 rw[HK.out]
 have jH:=hid (RH.out.below l3)
 have L3:=hid (L2.out.trans (l3.mono L2.out.size))
 have a3:=jH.out.c3
 have a4:=jH.out.c4
 simp only at a3 a4
 replace hw1:=hw1.out
 replace hw2:=hw2.out
 replace hw3:=hw3.out
 clear l3
 go_wp2_with fail
 go_ret
 exact⟨N,by first|rfl|exact congrArg (fun x=>Ending.returned (Value.int .i64 x)) qU.out,Nv.out,yc.out,L3.out⟩
theorem TG {p:Piece} {M T:Nat} (hM:M<=100) (hT:M<=T/\T<=100) (IH:Jg p) {w:World} {r:Raw} (h:Be w r (.mk 9 ⟨#[]⟩ [p] M (T:Int))):Calls Tryz.prog 74 #[.agg (Ak r)] w (bE w (size (.mk 9 ⟨#[]⟩ [p] M (T:Int)))):=by
 rw[XV]
 obtain⟨A,c,Ag,rfl,k1⟩:=h.parts
 have hr:1<=c/\c<=9223372036854775807:=k1.room
 obtain⟨g1,o1,rfl,C1⟩:=k1.at_ (Nat.lt_succ_self 0)
 obtain⟨hr1,q1⟩:=k1.kid (i:=0) (Nat.lt_succ_self 0)
 have HG:=hid (k1.2.1 _ rfl (Nat.lt_of_le_of_lt (Nat.zero_le _) hr1))
 have E1:=C1 0 hr1
 obtain⟨rk,Hy⟩: ∃rk,Ag[0]=rk:=⟨_,rfl⟩
 rw[Hy]at E1 q1
 have Q1:Hid (Be w rk p):=q1
 rw[show o1+0*5=o1 by omega]at E1
 have E1:=hid E1
 have HI:=hid (fun(w:World) (h:Be w rk p)=>IH w rk h)
 have HO:=hid (fun w=>JU (m:=(M:Int)) (t:=(T:Int)) ⟨by omega,by omega⟩ (A:=some ⟨g1,o1,none⟩) hr w)
 have hS:=size_le p
 obtain⟨K,hK⟩: ∃K,size p=K:=⟨_,rfl⟩
 have HK:=hid hK
 rw[hK]at hS ⊢
 have ZQ:=Fj (a:=M) (b:=K) (by omega) (by omega)
 obtain⟨P,hP⟩: ∃P,M*K=P:=⟨_,rfl⟩
 rw[hP]at ZQ
 have hw1:Hid (wrap64 ((M:Int)*(K:Int))=(P:Int)):=CR (by rw[<-Int.natCast_mul,hP]) (Nat.le_trans ZQ (by decide))
 replace hP:=hid hP
 obtain⟨D,hD⟩: ∃D,T-M=D:=⟨_,rfl⟩
 have hw2:Hid (wrap64 ((T:Int)-(M:Int))=(D:Int)):=CR (by omega) (by omega)
 obtain⟨K2,hK2⟩: ∃K2,K+1=K2:=⟨_,rfl⟩
 have hw3:Hid (wrap64 ((K:Int)+1)=(K2:Int)):=CR (by omega) (by omega)
 have r_:=Fj (a:=D) (b:=K2) (by omega) (by omega)
 obtain⟨G,hG⟩: ∃G,D*K2=G:=⟨_,rfl⟩
 rw[hG]at r_
 have hw4:Hid (wrap64 ((D:Int)*(K2:Int))=(G:Int)):=CR (by rw[<-Int.natCast_mul,hG]) (Nat.le_trans r_ (by decide))
 replace hG:=hid hG
 obtain⟨N,hN⟩: ∃N,P+G=N:=⟨_,rfl⟩
 have uH:Hid (wrap64 ((P:Int)+(G:Int))=(N:Int)):=CR (by rw[<-hN,Int.natCast_add]) (by omega)
 have yc:Hid (N<=4000000):=by unfold Hid;omega
 have HE:Hid (min 4001 (if(T:Int)= -1 then M*K+K+2 else M*K+((T:Int)-(M:Int)).toNat*(K+1))=min 4001 N):=by
  unfold Hid
  rw[if_neg (by omega),show((T:Int)-(M:Int)).toNat=D by omega,hP.out,hK2,hG.out,hN]
 have x0:Hid (((T:Int)== -1)=false):=by unfold Hid;simp
 rw[HE.out]
 have qU:=uH
 have Nv:Hid (min 4001 N=min 4001 (min 4001 N)):=by unfold Hid;omega
 have hc1:=hr.1
 have hc2:=hr.2
 clear h k1 C1 q1 Hy hr1 IH hK hS ZQ hr HE hM hN hT hD hK2 r_
 go_enter Tryz.func74,Tryz.ntmps74
 go_wp2_with (first
  |(refine AV (r:=⟨9,⟨#[]⟩,some ⟨g1,o1,none⟩,1,c,(M:Int),(T:Int)⟩) rfl (.tmp 0) rfl rfl ?_;intro w1 b1 e1 p1 l1 z1;have P1:=hid p1;have L1:=hid l1;clear e1 p1 l1 z1)
  |(refine AU (r:=⟨9,⟨#[]⟩,some ⟨g1,o1,none⟩,1,c,(M:Int),(T:Int)⟩) rfl (.tmp 1) rfl rfl P1.out ?_))
 refine(HO.out _).mono ?_
 rintro e w2 ⟨rfl,l2⟩
 have RH:=hid (P1.out.below l2)
 have L2:=hid (L1.out.trans (l2.mono L1.out.size))
 have E2:Hid (∀j,j<5->w2.cell? ⟨g1,o1+j,none⟩=(Co rk)[j]?):=fun j hj=>(AO (L2.out.block g1 HG.out)).trans (E1.out j hj)
 have Q2:=hid (Q1.out.below L2.out)
 have a2:=RH.out.c2
 simp only at a2
 clear l2
 go_wp2_with (first|(refine Aq rfl (.tmp 10) rfl rfl (r:=rk) E2.out ?_))
 refine(HI.out _ Q2.out).mono ?_
 rintro e w3 ⟨rfl,l3⟩
 rw[HK.out]
 have jH:=hid (RH.out.below l3)
 have L3:=hid (L2.out.trans (l3.mono L2.out.size))
 have a3:=jH.out.c3
 have a4:=jH.out.c4
 simp only at a3 a4
 replace hw1:=hw1.out
 replace hw2:=hw2.out
 replace hw3:=hw3.out
 replace hw4:=hw4.out
 replace uH:=uH.out
 replace x0:=x0.out
 clear l3
 go_wp2_with fail
 go_ret
 exact⟨N,by first|rfl|exact congrArg (fun x=>Ending.returned (Value.int .i64 x)) qU.out,Nv.out,yc.out,L3.out⟩
end W14
end Go.Proofs.YtfgegjinhkgpbaaGreatDoor
