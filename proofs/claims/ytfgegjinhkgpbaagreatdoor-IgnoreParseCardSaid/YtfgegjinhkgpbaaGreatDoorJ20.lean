/-
  Texts joined, in build order, each with its own comment and its own conditions: W15RefReps, W15RefMade, W14RefBox, W14RefDig.
-/
import Derived.Test.YtfgegjinhkgpbaaGreatDoorJ12
import Derived.Test.YtfgegjinhkgpbaaGreatDoorJ16
import Derived.Test.YtfgegjinhkgpbaaGreatDoorJ04
import Derived.Test.YtfgegjinhkgpbaaGreatDoorJ05
import Derived.Deep.LoopGhost
namespace Go.Proofs.YtfgegjinhkgpbaaGreatDoor
set_option maxHeartbeats 4000000
set_option maxRecDepth 100000
open Go.RowKit
open Lib (hid)
namespace EH
open Strs Al Bv
open Cj (Piece size sizes)
open W14 (Raw Ea Ak Co DF FT Ad Be AV AU Aq AO)
open Kit (below_draws on)
set_option maxHeartbeats 8000000 in
theorem ko {p:Piece} {M:Nat} (hM:M<=100) (hg:Bv.Good (.mk 9 no [p] (M:Int) (-1))) (qK:Bv.Good p) (IH:sD p) {w:World} {r:Raw} {a E Sz:Nat} (h:Be w r (.mk 9 no [p] (M:Int) (-1))) (hS:size (.mk 9 no [p] (M:Int) (-1))=Sz) (hSz:M*size p+size p+2=Sz) (hz:Sz<=4000) (hE:a+Sz=E) (ha:E<=8000):
    Calls Tryz.prog 79 #[.agg (Ak r),.int .i64 a] w (Sy w (times (steps p) M a++star (steps p) E (a+(times (steps p) M a).length))):=by
 have HM:=hid hM
 clear hM
 have Xa:=hid (fun w r hl=>KU hg w r hl)
 rw[hS]at Xa
 have dP:=hid h
 obtain⟨A,c,Ag,rfl,k1⟩:=h.parts
 have om:=hid IH
 have qL:=hid qK
 have hr:1<=c/\c<=9223372036854775807:=k1.room
 obtain⟨g1,o1,rk,rfl,hg1,q0,C0⟩:=ZT k1 (i:=0) (Nat.lt_succ_self 0) rfl
 have mP:=hid hg1
 have Q0:Hid (Be w rk p):=q0
 rw[show o1+0*5=o1 by omega]at C0
 have C0:=hid C0
 obtain⟨K,hK⟩: ∃K,size p=K:=⟨_,rfl⟩
 rw[hK]at hSz
 have HK:=hid hK
 have oJ:=hid hSz
 have J3:=hid (show Sz<=4000/\a+Sz=E/\E<=8000 from⟨hz,hE,ha⟩)
 have qM:=Er hE (by clear hSz;omega)
 have hc1:=hr.1
 have hc2:=hr.2
 have tJ:=hid hr
 have qN:Hid (∀(w:World) (a':Nat),Be w rk p->K<=4000->a'+K<=8000->Calls Tryz.prog 79 #[.agg (Ak rk),.int .i64 a'] w (Sy w (steps p a'))):=by
  intro w a' h1 h2 h3
  have h4:=om.out w rk a'
  rw[hK]at h4
  exact h4 h1 h2 h3
 clear h k1 IH hg qK hS hSz hz hE ha hK hr q0 hg1
 go_enter Tryz.func79,Tryz.ntmps79
 go_wp2_with (first
  |(refine AV (r:=⟨9,no,some ⟨g1,o1,none⟩,1,c,(M:Int),-1⟩) rfl (.tmp 0) rfl rfl ?_;intro w1 b1 e1 p1 l1 z1;have a0:=p1.c0;have P1:=hid p1;have L1:=hid l1;clear e1 p1 l1 z1;simp only at a0)
  |(refine AU (r:=⟨9,no,some ⟨g1,o1,none⟩,1,c,(M:Int),-1⟩) rfl (.tmp 2) rfl rfl P1.out ?_))
 refine(Xa.out _ _ (dP.out.below L1.out)).mono ?_
 rintro e w2 ⟨rfl,l2⟩
 have S0:=hid ((St.start (w0:=w) P1.out L1.out).below l2)
 clear l2 a0 hc1 hc2
 go_wp2_with fail
 simp only[qM]
 clear qM
 go_loopg [5,12] M (fun gk s5 s12 wr=> ∃(i:Nat) (vo:Value),s5=vo/\s12= .int .i64 i/\Hid (i+gk=M)/\Hid (St w wr b1 ⟨9,no,some ⟨g1,o1,none⟩,1,c,(M:Int),-1⟩ vo (times (steps p) i a)))
 case atStart=>exact⟨0,.slice none 0 0,rfl,rfl,by unfold Hid;omega,by unfold Hid;simp only[times];exact S0.out⟩
 case round=>
  obtain⟨i,vo,rfl,rfl,hig,SS⟩:=hrel
  have a2:=SS.out.box.c2
  have a3:=SS.out.box.c3
  simp only at a2 a3
  have hn1:=tJ.out.1
  have hn2:=tJ.out.2
  by_cases hi:i<M
  ·have ti:(i:Int)<(M:Int):=by omega
   have hK4:K<=4000:=by have:=oJ.out;have:=J3.out.1;generalize M*K=MK at *;omega
   have hlen:=Ba qL.out (by rw[HK.out];exact hK4)
   rw[HK.out]at hlen
   have hmul:(i+1)*K<=M*K:=Nat.mul_le_mul_right _ hi
   rw[Nat.succ_mul]at hmul
   have hll:=Cv hlen i a
   have hsn:=Ha (steps p) i a
   rw[hll]at hsn
   obtain⟨Q,hQ⟩: ∃Q,i*K=Q:=⟨_,rfl⟩
   rw[hQ]at hmul hll hsn
   obtain⟨S,mO⟩: ∃S,a+Q=S:=⟨_,rfl⟩
   rw[mO]at hsn
   have y9:Q+K<=Sz:=by
    have:=oJ.out
    generalize M*K=MK at*
    clear hlen hll hsn
    omega
   have tK:=hid (show Q+K<=4000/\S+K<=8000 from by have:=J3.out;clear hmul hlen hll hsn hQ;exact⟨by omega,by omega⟩)
   have hw:=Er mO (by have:=tK.out;clear hmul hlen hll hsn hQ;omega)
   have HC:=hid (qN.out wr S (Q0.out.below SS.out.low) hK4 tK.out.2)
   have HX:Hid (times (steps p) (i+1) a=times (steps p) i a++steps p S):=hsn
   have HL:Hid ((times (steps p) i a).length+(steps p S).length<=1000000):=by unfold Hid;rw[hll,hlen S];have:=tK.out;clear hw hmul hlen hll hsn hQ;omega
   obtain⟨Ao,co,rfl,LX,XZ⟩:=SS.out.form
   rw[hll]at LX SS ⊢
   have DT:Hid (wrap64 ((i:Int)+1)=((i+1:Nat):Int)):=by unfold Hid wrap64;have:=HM.out;clear hw hmul hlen hll hsn hQ;omega
   have HI2:=hid hi
   have E0:=hid (GI C0.out mP.out SS.out.low)
   clear hlen hmul hll hsn hQ mO y9 hi hK4
   go_wp2_with (first|(refine Aq rfl (.tmp 150) rfl rfl (r:=rk) E0.out ?_))
   refine HC.out.mono ?_
   rintro e w3 ⟨vs,rfl,o3,l3⟩
   have S2:=hid (SS.out.below l3)
   have R2:=hid (Al.Bw BJ rfl o3)
   clear o3 l3 a2 a3 hw
   go_wp2_with (first
    |(refine CU rfl (.tmp 147) (.tmp 156) rfl rfl rfl S2.out.own R2.out HL.out S2.out.low.size ?_;intro v4 w4 o4 p4;have S4:=hid (S2.out.put o4 p4);clear o4 p4))
   rw[<-HX.out]at S4
   cases gk with
   |zero=>exact absurd hig.out (by have:=HI2.out;omega)
   |succ g=>
    go_wp2_with fail
    go_roundg g
    case measure=>omega
    case rel=>exact⟨i+1,v4,rfl,by first|rfl|exact congrArg (Value.int .i64) DT.out,by have:=hig.out;unfold Hid;omega,S4⟩
  have ti: ¬(i:Int)<(M:Int):=by omega
  have hie:i=M:=by have:=hig.out;omega
  subst hie
  clear hi
  have hK4:K<=4000:=by have:=oJ.out;have:=J3.out.1;generalize i*K=MK at *;omega
  have hlen:=Ba qL.out (by rw[HK.out];exact hK4)
  rw[HK.out]at hlen
  have hll:=Cv hlen i a
  obtain⟨Q,hQ⟩: ∃Q,i*K=Q:=⟨_,rfl⟩
  rw[hQ]at hll
  have vw:=oJ
  rw[hQ]at vw
  obtain⟨hh,gH⟩: ∃hh,a+Q=hh:=⟨_,rfl⟩
  obtain⟨x1,hx1⟩: ∃x1,hh+1=x1:=⟨_,rfl⟩
  have HB:=hid (show hh+K+2=E/\E<=8000/\Q<=4000 from by have:=J3.out;have:=vw.out;clear hll hlen hQ;exact⟨by omega,by omega,by omega⟩)
  have HX1:=hid hx1
  have VT:=hid hlen
  have Pj:=hid hll
  have ed:=Er gH (by have:=HB.out;clear hll hlen hQ;omega)
  have hwx:=wrap_one hx1 (by have:=HB.out;clear hll hlen hQ ed;omega)
  have Nv:Hid (times (steps p) i a++ [(⟨6,⟨#[]⟩,(x1:Nat),(E:Nat)⟩:AL)]++steps p x1++ [(⟨8,⟨#[]⟩,(hh:Nat),0⟩:AL)]=times (steps p) i a++star (steps p) E (a+(times (steps p) i a).length)):=by
   unfold Hid
   rw[Pj.out,gH,<-hx1]
   simp only[star,List.append_assoc,List.cons_append,List.nil_append]
   rfl
  have IW:Hid ((times (steps p) i a).length+ [(⟨6,⟨#[]⟩,(x1:Nat),(E:Nat)⟩:AL)].length<=1000000):=by unfold Hid;rw[Pj.out];simp only[List.length_cons,List.length_nil];have:=HB.out;clear hll hlen hQ ed hwx;omega
  have HL2:Hid ((times (steps p) i a++ [(⟨6,⟨#[]⟩,(x1:Nat),(E:Nat)⟩:AL)]).length+(steps p x1).length<=1000000):=by unfold Hid;rw[List.length_append,Pj.out,VT.out];simp only[List.length_cons,List.length_nil];have:=HB.out;clear hll hlen hQ ed hwx;omega
  have S_:Hid ((times (steps p) i a++ [(⟨6,⟨#[]⟩,(x1:Nat),(E:Nat)⟩:AL)]++steps p x1).length+ [(⟨8,⟨#[]⟩,(hh:Nat),0⟩:AL)].length<=1000000):=by unfold Hid;rw[List.length_append,List.length_append,Pj.out,VT.out];simp only[List.length_cons,List.length_nil];have:=HB.out;clear hll hlen hQ ed hwx;omega
  obtain⟨Ao,co,rfl,LX,XZ⟩:=SS.out.form
  rw[hll]at LX SS ⊢
  have a4:=SS.out.box.c4
  simp only at a4
  clear hlen hll hQ gH hx1
  go_wp2_with (first
   |(refine C_ (r:=⟨6,⟨#[]⟩,(x1:Nat),(E:Nat)⟩) rfl (.tmp 169) rfl rfl ?_;intro w4 b4 e4 p4 l4 z4 o4;have R4:=hid p4;have S4:=hid (SS.out.below l4);clear e4 p4 l4 z4 o4)
   |(refine CU rfl (.tmp 165) (.tmp 170) rfl rfl rfl S4.out.own R4.out IW.out S4.out.low.size ?_;intro v5 w5 o5 p5;have S5:=hid (S4.out.put o5 p5);clear o5 p5;clear a2 a3 a4;have a2:=S5.out.box.c2;simp only at a2;have e5:=hid (GI C0.out mP.out S5.out.low))
   |(refine Aq rfl (.tmp 175) rfl rfl (r:=rk) e5.out ?_))
  refine(qN.out _ x1 (Q0.out.below S5.out.low) hK4 (by have:=HB.out;have:=HX1.out;clear ed hwx;omega)).mono ?_
  rintro e w6 ⟨v6,rfl,o6,l6⟩
  have S6:=hid (S5.out.below l6)
  have R6:=hid (Al.Bw BJ rfl o6)
  clear o6 l6 a2 hwx
  go_wp2_with (first
   |(refine CU rfl (.tmp 172) (.tmp 179) rfl rfl rfl S6.out.own R6.out HL2.out S6.out.low.size ?_;intro v7 w7 o7 p7;have S7:=hid (S6.out.put o7 p7);clear o7 p7)
   |(refine C_ (r:=⟨8,⟨#[]⟩,(hh:Nat),0⟩) rfl (.tmp 183) rfl rfl ?_;intro w8 b8 e8 p8 l8 z8 o8;have R8:=hid p8;have S8:=hid (S7.out.below l8);clear e8 p8 l8 z8 o8)
   |(refine CU rfl (.tmp 181) (.tmp 184) rfl rfl rfl S8.out.own R8.out S_.out S8.out.low.size ?_;intro v9 w9 o9 p9;have S9:=hid (S8.out.put o9 p9);clear o9 p9;have a3:=S9.out.box.c3;have a4:=S9.out.box.c4;simp only at a3 a4))
  rw[Nv.out]at S9
  clear a3
  go_loopg [5,13,14] 1 (fun gk s5 s13 vv wr=>s5=v9/\s13= .int .i64 hh/\vv= .int .i64 i/\wr=w9)
  case atStart=>exact⟨rfl,by first|rfl|exact congrArg (Value.int .i64) ed,rfl,rfl⟩
  case round=>
   obtain⟨rfl,rfl,rfl,rfl⟩:=hrel
   have a4:=S9.out.box.c4
   simp only at a4
   have AAA: ¬(i:Int)< -1:=by omega
   go_wp2_with fail
   go_ret
   exact S9.out.gets
set_option maxHeartbeats 8000000 in
theorem kr {p:Piece} {M T D:Nat} (hM:M<=100) (hT:M+D=T/\T<=100) (hg:Bv.Good (.mk 9 no [p] (M:Int) (T:Int))) (qK:Bv.Good p) (IH:sD p) {w:World} {r:Raw} {a E Sz:Nat} (h:Be w r (.mk 9 no [p] (M:Int) (T:Int))) (hS:size (.mk 9 no [p] (M:Int) (T:Int))=Sz) (hSz:M*size p+D*(size p+1)=Sz) (hz:Sz<=4000) (hE:a+Sz=E) (ha:E<=8000) (vU:0<M\/0<D->size p<=4000):
    Calls Tryz.prog 79 #[.agg (Ak r),.int .i64 a] w (Sy w (times (steps p) M a++maybe (steps p) E D (a+(times (steps p) M a).length))):=by
 have HM:=hid hM
 have sV:=hid hT
 have mV:=hid vU
 clear hM hT vU
 have Xa:=hid (fun w r hl=>KU hg w r hl)
 rw[hS]at Xa
 have dP:=hid h
 obtain⟨A,c,Ag,rfl,k1⟩:=h.parts
 have om:=hid IH
 have qL:=hid qK
 have hr:1<=c/\c<=9223372036854775807:=k1.room
 obtain⟨g1,o1,rk,rfl,hg1,q0,C0⟩:=ZT k1 (i:=0) (Nat.lt_succ_self 0) rfl
 have mP:=hid hg1
 have Q0:Hid (Be w rk p):=q0
 rw[show o1+0*5=o1 by omega]at C0
 have C0:=hid C0
 obtain⟨K,hK⟩: ∃K,size p=K:=⟨_,rfl⟩
 rw[hK]at hSz mV
 have HK:=hid hK
 have oJ:=hid hSz
 have J3:=hid (show Sz<=4000/\a+Sz=E/\E<=8000 from⟨hz,hE,ha⟩)
 have qM:=Er hE (by clear hSz;omega)
 have hc1:=hr.1
 have hc2:=hr.2
 have tJ:=hid hr
 have qN:Hid (∀(w:World) (a':Nat),Be w rk p->K<=4000->a'+K<=8000->Calls Tryz.prog 79 #[.agg (Ak rk),.int .i64 a'] w (Sy w (steps p a'))):=by
  intro w a' h1 h2 h3
  have h4:=om.out w rk a'
  rw[hK]at h4
  exact h4 h1 h2 h3
 clear h k1 IH hg qK hS hSz hz hE ha hK hr q0 hg1
 go_enter Tryz.func79,Tryz.ntmps79
 go_wp2_with (first
  |(refine AV (r:=⟨9,no,some ⟨g1,o1,none⟩,1,c,(M:Int),(T:Int)⟩) rfl (.tmp 0) rfl rfl ?_;intro w1 b1 e1 p1 l1 z1;have a0:=p1.c0;have P1:=hid p1;have L1:=hid l1;clear e1 p1 l1 z1;simp only at a0)
  |(refine AU (r:=⟨9,no,some ⟨g1,o1,none⟩,1,c,(M:Int),(T:Int)⟩) rfl (.tmp 2) rfl rfl P1.out ?_))
 refine(Xa.out _ _ (dP.out.below L1.out)).mono ?_
 rintro e w2 ⟨rfl,l2⟩
 have S0:=hid ((St.start (w0:=w) P1.out L1.out).below l2)
 clear l2 a0 hc1 hc2
 go_wp2_with fail
 simp only[qM]
 clear qM
 go_loopg [5,12] M (fun gk s5 s12 wr=> ∃(i:Nat) (vo:Value),s5=vo/\s12= .int .i64 i/\Hid (i+gk=M)/\Hid (St w wr b1 ⟨9,no,some ⟨g1,o1,none⟩,1,c,(M:Int),(T:Int)⟩ vo (times (steps p) i a)))
 case atStart=>exact⟨0,.slice none 0 0,rfl,rfl,by unfold Hid;omega,by unfold Hid;simp only[times];exact S0.out⟩
 case round=>
  obtain⟨i,vo,rfl,rfl,hig,SS⟩:=hrel
  have a2:=SS.out.box.c2
  have a3:=SS.out.box.c3
  simp only at a2 a3
  have hn1:=tJ.out.1
  have hn2:=tJ.out.2
  by_cases hi:i<M
  ·have ti:(i:Int)<(M:Int):=by omega
   have hK4:K<=4000:=mV.out (.inl (Nat.lt_of_le_of_lt (Nat.zero_le _) hi))
   have hlen:=Ba qL.out (by rw[HK.out];exact hK4)
   rw[HK.out]at hlen
   have hmul:(i+1)*K<=M*K:=Nat.mul_le_mul_right _ hi
   rw[Nat.succ_mul]at hmul
   have hll:=Cv hlen i a
   have hsn:=Ha (steps p) i a
   rw[hll]at hsn
   obtain⟨Q,hQ⟩: ∃Q,i*K=Q:=⟨_,rfl⟩
   rw[hQ]at hmul hll hsn
   obtain⟨S,mO⟩: ∃S,a+Q=S:=⟨_,rfl⟩
   rw[mO]at hsn
   have y9:Q+K<=Sz:=by
    have:=oJ.out
    generalize M*K=MK at*
    clear hlen hll hsn
    generalize D*(K+1)=DK at *;omega
   have tK:=hid (show Q+K<=4000/\S+K<=8000 from by have:=J3.out;clear hmul hlen hll hsn hQ;exact⟨by omega,by omega⟩)
   have hw:=Er mO (by have:=tK.out;clear hmul hlen hll hsn hQ;omega)
   have HC:=hid (qN.out wr S (Q0.out.below SS.out.low) hK4 tK.out.2)
   have HX:Hid (times (steps p) (i+1) a=times (steps p) i a++steps p S):=hsn
   have HL:Hid ((times (steps p) i a).length+(steps p S).length<=1000000):=by unfold Hid;rw[hll,hlen S];have:=tK.out;clear hw hmul hlen hll hsn hQ;omega
   obtain⟨Ao,co,rfl,LX,XZ⟩:=SS.out.form
   rw[hll]at LX SS ⊢
   have DT:Hid (wrap64 ((i:Int)+1)=((i+1:Nat):Int)):=by unfold Hid wrap64;have:=HM.out;clear hw hmul hlen hll hsn hQ;omega
   have HI2:=hid hi
   have E0:=hid (GI C0.out mP.out SS.out.low)
   clear hlen hmul hll hsn hQ mO y9 hi hK4
   go_wp2_with (first|(refine Aq rfl (.tmp 150) rfl rfl (r:=rk) E0.out ?_))
   refine HC.out.mono ?_
   rintro e w3 ⟨vs,rfl,o3,l3⟩
   have S2:=hid (SS.out.below l3)
   have R2:=hid (Al.Bw BJ rfl o3)
   clear o3 l3 a2 a3 hw
   go_wp2_with (first
    |(refine CU rfl (.tmp 147) (.tmp 156) rfl rfl rfl S2.out.own R2.out HL.out S2.out.low.size ?_;intro v4 w4 o4 p4;have S4:=hid (S2.out.put o4 p4);clear o4 p4))
   rw[<-HX.out]at S4
   cases gk with
   |zero=>exact absurd hig.out (by have:=HI2.out;omega)
   |succ g=>
    go_wp2_with fail
    go_roundg g
    case measure=>omega
    case rel=>exact⟨i+1,v4,rfl,by first|rfl|exact congrArg (Value.int .i64) DT.out,by have:=hig.out;unfold Hid;omega,S4⟩
  have ti: ¬(i:Int)<(M:Int):=by omega
  have hie:i=M:=by have:=hig.out;omega
  subst hie
  clear hi
  obtain⟨Nl,tL⟩: ∃Nl,(times (steps p) i a).length=Nl:=⟨_,rfl⟩
  have y_:Nl+D*(K+1)=Sz:=by
   have h9:=oJ.out
   by_cases q:0<i
   ·have h1:=Ba qL.out (by rw[HK.out];exact mV.out (.inl q))
    rw[HK.out]at h1
    rw[<-tL,Cv h1];exact h9
   obtain rfl:i=0:=by omega
   have h2:Nl=0:=by rw[<-tL];rfl
   rw[h2,Nat.zero_add]
   rw[Nat.zero_mul,Nat.zero_add]at h9
   exact h9
  obtain⟨hh,gH⟩: ∃hh,a+Nl=hh:=⟨_,rfl⟩
  have HND:=hid y_
  have GX:=hid tL
  have uK:=hid gH
  have HB:=hid (show hh<=8000/\E<=8000 from by have:=J3.out;generalize D*(K+1)=DK at *;clear tL;exact⟨by omega,by omega⟩)
  have ed:=Er gH (by have:=HB.out;clear tL y_;omega)
  obtain⟨Ti,xH⟩: ∃Ti,times (steps p) i a=Ti:=⟨_,rfl⟩
  rw[xH]at GX
  have Nv:Hid (times (steps p) i a++maybe (steps p) E D (a+(times (steps p) i a).length)=Ti++maybe (steps p) E D hh):=by unfold Hid;rw[tL,xH,gH]
  rw[xH]at SS
  obtain⟨Ao,co,rfl,LX,XZ⟩:=SS.out.form
  rw[GX.out]at LX SS ⊢
  have a4:=SS.out.box.c4
  simp only at a4
  have tT: ¬(T:Int)<0:=by omega
  clear tL y_ gH xH
  go_wp2_with fail
  clear a2 a3 a4 tT
  go_loopg [5,13,14] D (fun gk s5 s13 vv wr=> ∃(j q:Nat) (vo:Value),s5=vo/\vv= .int .i64 q/\Hid (q=i+j)/\Hid (j+gk=D)/\Hid (St w wr b1 ⟨9,no,some ⟨g1,o1,none⟩,1,c,(i:Int),(T:Int)⟩ vo (Ti++maybe (steps p) E j hh)))
  case atStart=>exact⟨0,i,_,rfl,rfl,rfl,by unfold Hid;omega,by unfold Hid;simp only[maybe,List.append_nil];exact SS.out⟩
  case round=>
   obtain⟨j,q,vo,rfl,rfl,hq,TE,S1⟩:=hrel
   have a2:=S1.out.box.c2
   have a4:=S1.out.box.c4
   simp only at a2 a4
   by_cases hj:j<D
   ·have tq:(q:Int)<(T:Int):=by have:=hq.out;have:=sV.out;omega
    have hK4:K<=4000:=mV.out (.inr (Nat.lt_of_le_of_lt (Nat.zero_le _) hj))
    have hlen:=Ba qL.out (by rw[HK.out];exact hK4)
    rw[HK.out]at hlen
    have hmul:(j+1)*(K+1)<=D*(K+1):=Nat.mul_le_mul_right _ hj
    rw[Nat.succ_mul]at hmul
    have Yc:=Gi hlen E j hh
    have hsn:=JS hlen E j hh
    obtain⟨P,hP⟩: ∃P,j*(K+1)=P:=⟨_,rfl⟩
    rw[hP]at hmul Yc hsn
    obtain⟨h2,hh2⟩: ∃h2,hh+P=h2:=⟨_,rfl⟩
    rw[hh2]at hsn
    obtain⟨x1,hx1⟩: ∃x1,h2+1=x1:=⟨_,rfl⟩
    rw[hx1]at hsn
    obtain⟨NN,hNN⟩: ∃NN,Nl+P=NN:=⟨_,rfl⟩
    have hll:(Ti++maybe (steps p) E j hh).length=NN:=by rw[List.length_append,GX.out,Yc,hNN]
    have HB2:=hid (show x1+K<=8000/\NN<=4000/\a+NN=h2/\h2<=8000 from by
     have b1:=HND.out
     have b2:=J3.out
     have b3:=uK.out
     generalize D*(K+1)=DK at*
     clear hlen Yc hsn hP hll ed
     exact⟨by omega,by omega,by omega,by omega⟩)
    have hw2:=Er HB2.out.2.2.1 (Nat.le_trans HB2.out.2.2.2 (by decide))
    have hwx:=wrap_one hx1 (by have:=HB2.out;clear hlen Yc hsn hP hll ed hw2 hmul;omega)
    have HX:Hid (Ti++maybe (steps p) E (j+1) hh=Ti++maybe (steps p) E j hh++ [(⟨6,⟨#[]⟩,(x1:Nat),(E:Nat)⟩:AL)]++steps p x1):=by
     unfold Hid
     rw[hsn]
     simp only[List.append_assoc,List.cons_append,List.nil_append]
     rfl
    have IW:Hid ((Ti++maybe (steps p) E j hh).length+ [(⟨6,⟨#[]⟩,(x1:Nat),(E:Nat)⟩:AL)].length<=1000000):=by unfold Hid;rw[hll];simp only[List.length_cons,List.length_nil];have:=HB2.out;clear hlen Yc hsn hP hll ed hw2 hwx hmul;omega
    have HL2:Hid ((Ti++maybe (steps p) E j hh++ [(⟨6,⟨#[]⟩,(x1:Nat),(E:Nat)⟩:AL)]).length+(steps p x1).length<=1000000):=by unfold Hid;rw[List.length_append,hll,hlen x1];simp only[List.length_cons,List.length_nil];have:=HB2.out;clear hlen Yc hsn hP hll ed hw2 hwx hmul;omega
    have hwq:Hid (wrap64 ((q:Int)+1)=((q+1:Nat):Int)):=by unfold Hid wrap64;have:=hq.out;have:=sV.out;clear hlen Yc hsn hP hll ed hw2 hwx hmul;omega
    obtain⟨Ao,co,rfl,LX,XZ⟩:=S1.out.form
    rw[hll]at LX S1 ⊢
    have HJ2:=hid hj
    have hn1:=tJ.out.1
    have hn2:=tJ.out.2
    have HC:=hid (fun w h=>qN.out w x1 h hK4 HB2.out.1)
    clear hlen hmul Yc hsn hP hh2 hx1 hNN hll hj ed hK4
    go_wp2_with (first
     |(refine C_ (r:=⟨6,⟨#[]⟩,(x1:Nat),(E:Nat)⟩) rfl (.tmp 202) rfl rfl ?_;intro w4 b4 e4 p4 l4 z4 o4;have R4:=hid p4;have S4:=hid (S1.out.below l4);clear e4 p4 l4 z4 o4)
     |(refine CU rfl (.tmp 198) (.tmp 203) rfl rfl rfl S4.out.own R4.out IW.out S4.out.low.size ?_;intro v5 w5 o5 p5;have S5:=hid (S4.out.put o5 p5);clear o5 p5;clear a2 a4;have a2:=S5.out.box.c2;simp only at a2;have e5:=hid (GI C0.out mP.out S5.out.low))
     |(refine Aq rfl (.tmp 208) rfl rfl (r:=rk) e5.out ?_))
    refine(HC.out _ (Q0.out.below S5.out.low)).mono ?_
    rintro e w6 ⟨v6,rfl,o6,l6⟩
    have S6:=hid (S5.out.below l6)
    have R6:=hid (Al.Bw BJ rfl o6)
    clear o6 l6 a2 hwx hw2
    go_wp2_with (first
     |(refine CU rfl (.tmp 205) (.tmp 212) rfl rfl rfl S6.out.own R6.out HL2.out S6.out.low.size ?_;intro v7 w7 o7 p7;have S7:=hid (S6.out.put o7 p7);clear o7 p7))
    rw[<-HX.out]at S7
    cases gk with
    |zero=>exact absurd TE.out (by have:=HJ2.out;omega)
    |succ g=>
     go_wp2_with fail
     go_roundg g
     case measure=>omega
     case rel=>exact⟨j+1,q+1,v7,rfl,by first|rfl|exact congrArg (Value.int .i64) hwq.out,by have:=hq.out;unfold Hid;omega,by have:=TE.out;unfold Hid;omega,S7⟩
   have tq: ¬(q:Int)<(T:Int):=by have:=hq.out;have:=sV.out;omega
   have vN:j=D:=by have:=TE.out;omega
   subst vN
   rw[<-Nv.out]at S1
   clear hj
   go_wp2_with fail
   go_ret
   exact S1.out.gets
theorem pU {p:Piece} (h:Bv.Good p):sD p:=by
 induction h with
 |leaf k t h=>exact jK h t
 |many k hk ks h2 hw ih=>
  intro w r a hl hz ha
  have IH: ∀i (hi:i<ks.length),sD ks[i]:=fun i hi=>ih ks[i] (List.getElem_mem hi)
  have hgd:Bv.Good (.mk k no ks 0 0):= .many k hk ks h2 hw
  rcases hk with rfl|rfl
  ·rw[Bv.QR]at hz ha
   have hs: ∀q,q∈ks-> ∀a,(steps q a).length=size q:=fun q hq=>Ba (hw q hq) (by have:=Bv.EP hq;omega)
   rw[MR]
   exact oH IH hs hl (by omega) (by omega)
  rw[MS]
  have hsz:=Bv.QS no ks 0 0
  obtain⟨S,hS⟩: ∃S,size (.mk 8 no ks 0 0)=S:=⟨_,rfl⟩
  rw[hS]at hz ha hsz ⊢
  have hs: ∀q,q∈ks-> ∀a,(steps q a).length=size q:=fun q hq=>Ba (hw q hq) (by have:=Bv.EP hq;omega)
  obtain⟨n,hn⟩: ∃n,ks.length=n+1:=⟨ks.length-1,by omega⟩
  have hE:sizes ks+2*n=S:=by
   rw[hn]at hsz
   omega
  exact oI hgd hw IH hs hl hn hS hE hz rfl ha
 |rep p m t hm ht hw ih=>
  intro w r a hl hz ha
  have hgd:Bv.Good (.mk 9 no [p] m t):= .rep p m t hm ht hw
  rw[MU]
  have hsz:=Bv.II no p m t
  obtain⟨S,hS⟩: ∃S,size (.mk 9 no [p] m t)=S:=⟨_,rfl⟩
  have sW:=fun hu=>Bv.MQ (p:=p) (t:=no) (m:=m) (tp:=t) (by rw[hS];rw[hS]at hz;exact hz) hu hm.1
  rw[hS]at hz ha hsz ⊢
  obtain⟨M,rfl⟩: ∃M:Nat,m=(M:Int):=⟨m.toNat,by omega⟩
  unfold LC
  rw[Int.toNat_natCast]at hsz ⊢
  by_cases q:t= -1
  ·subst q
   rw[if_pos rfl]at hsz ⊢
   exact ko (by omega) hgd hw ih hl hS (by generalize M*size p=MK at *;omega) hz rfl ha
  rw[if_neg q]at hsz ⊢
  obtain⟨T,rfl⟩: ∃T:Nat,t=(T:Int):=⟨t.toNat,by omega⟩
  obtain⟨D,hD⟩: ∃D,M+D=T:=⟨T-M,by omega⟩
  have yZ:((T:Int)-(M:Int)).toNat=D:=by omega
  rw[yZ]at hsz ⊢
  exact kr (by omega) ⟨hD,by omega⟩ hgd hw ih hl hS (by generalize M*size p=MK at *;generalize D*(size p+1)=DK at *;omega) hz rfl ha (fun hu=>sW (by omega))
end EH
namespace EH
open Strs Al Bv
open Cj (Piece size sizes)
open W14 (Raw Ea Ak Co DF FT Ad Be AZ AV AU Bi)
open Kit (below_draws on)
theorem Vd {p:Piece} {w:World} {r:Raw} (hl:Be w r p):Calls Tryz.prog 78 #[.agg (Ak r)] w fun e w'=>e= .returned (.bool (Dh p&&decide (Cb p<=4000)))/\Below w.heap.size w w':=by
 have HW:=hid (ZL p)
 have HS:=hid (LW p)
 have HL:=hid hl
 unfold Sw at HS
 obtain⟨q,hq⟩: ∃q,Dh p=q:=⟨_,rfl⟩
 obtain⟨n,hn⟩: ∃n,Cb p=n:=⟨_,rfl⟩
 rw[hq]at HW ⊢
 rw[hn]at HS ⊢
 clear hl hq hn
 cases q with
 |false=>
  rw[Bool.false_and]
  go_enter Tryz.func78,Tryz.ntmps78
  go_wp2_with (first
   |(refine AV (r:=r) rfl (.tmp 0) rfl rfl ?_;intro w1 b1 e1 p1 l1 z1;have P1:=hid p1;have L1:=hid l1;clear e1 p1 l1 z1)
   |(refine AU (r:=r) rfl (.tmp 1) rfl rfl P1.out ?_))
  refine(HW.out _ _ (HL.out.below L1.out)).mono ?_
  rintro e w2 ⟨rfl,l2⟩
  have L2:=hid (on L1.out l2)
  clear l2
  go_wp2_with fail
  go_ret
  exact⟨rfl,L2.out⟩
 |true=>
  rw[Bool.true_and]
  go_enter Tryz.func78,Tryz.ntmps78
  go_wp2_with (first
   |(refine AV (r:=r) rfl (.tmp 0) rfl rfl ?_;intro w1 b1 e1 p1 l1 z1;have P1:=hid p1;have L1:=hid l1;clear e1 p1 l1 z1)
   |(refine AU (r:=r) rfl (.tmp 1) rfl rfl P1.out ?_))
  refine(HW.out _ _ (HL.out.below L1.out)).mono ?_
  rintro e w2 ⟨rfl,l2⟩
  have P2:=hid (P1.out.below l2)
  have a0:=P2.out.c0
  have a1:=P2.out.c1
  have a2:=P2.out.c2
  have a3:=P2.out.c3
  have a4:=P2.out.c4
  have L2:=hid (on L1.out l2)
  clear l2
  go_wp2_with fail
  refine(HS.out _ _ (HL.out.below L2.out)).mono ?_
  rintro e w3 ⟨rfl,l3⟩
  have L3:=hid (on L2.out l3)
  clear l3 a0 a1 a2 a3 a4
  have HD:Hid (decide ((n:Int)<=4000)=decide (n<=4000)):=by
   unfold Hid
   by_cases c:n<=4000
   ·rw[decide_eq_true c,decide_eq_true (by omega)]
   rw[decide_eq_false c,decide_eq_false (by omega)]
  go_wp2_with fail
  go_ret
  exact⟨by first|rfl|(rw[<-HD.out];rfl),L3.out⟩
theorem Xz {p:Piece} (hb:(Dh p&&decide (Cb p<=4000))=true) {w:World} {r:Raw} (hl:Be w r p):Calls Tryz.prog 46 #[.agg (Ak r)] w (Gives w (prog p)):=by
 have hbb:=hb
 rw[Bool.and_eq_true,decide_eq_true_eq]at hbb
 have hg:=Pg hbb.1
 have hz:size p<=4000:=by rw[<-RG hg];exact hbb.2
 have HR:Hid (∀w1,Below w.heap.size w w1->Calls Tryz.prog 78 #[.agg (Ak r)] w1 fun e w'=>e= .returned (.bool true)/\Below w1.heap.size w1 w'):=fun w1 l1=>by
  have:=Vd (hl.below l1)
  rw[hb]at this
  exact this
 have HC:Hid (∀w1,Below w.heap.size w w1->Calls Tryz.prog 79 #[.agg (Ak r),.int .i64 0] w1 (Sy w1 (steps p 0))):=fun w1 l1=>pU hg w1 r 0 (hl.below l1) hz (by omega)
 have Pj:=hid (Ba hg hz 0)
 have HZ:=hid hz
 clear hl hb hbb hg hz
 go_enter Tryz.func46,Tryz.ntmps46
 go_wp2_with (first
  |(refine AV (r:=r) rfl (.tmp 0) rfl rfl ?_;intro w1 b1 e1 p1 l1 z1;have P1:=hid p1;have L1:=hid l1;clear e1 p1 l1 z1)
  |(refine AU (r:=r) rfl (.tmp 1) rfl rfl P1.out ?_))
 refine(HR.out _ L1.out).mono ?_
 rintro e w2 ⟨rfl,l2⟩
 have L2:=hid (on L1.out l2)
 have P2:=hid (P1.out.below l2)
 clear l2
 go_wp2_with (first|(refine AU (r:=r) rfl (.tmp 1) rfl rfl P2.out ?_))
 refine(HC.out _ L2.out).mono ?_
 rintro e w3 ⟨v3,rfl,o3,l3⟩
 have S3:Hid (St w w3 b1 r v3 (steps p 0)):=⟨o3.mono L2.out.size,P2.out.below l3,on L2.out l3⟩
 have IW:Hid ((steps p 0).length+ [(⟨7,⟨#[]⟩,0,0⟩:AL)].length<=1000000):=by unfold Hid;rw[Pj.out];simp only[List.length_cons,List.length_nil];have:=HZ.out;omega
 clear o3 l3
 go_wp2_with (first
  |(refine C_ (r:=⟨7,⟨#[]⟩,0,0⟩) rfl (.tmp 9) rfl rfl ?_;intro w4 b4 e4 p4 l4 z4 o4;have R4:=hid p4;have S4:=hid (S3.out.below l4);clear e4 p4 l4 z4 o4)
  |(refine CU rfl (.tmp 8) (.tmp 10) rfl rfl rfl S4.out.own R4.out IW.out S4.out.low.size ?_;intro v5 w5 o5 p5;have S5:=hid (S4.out.put o5 p5);clear o5 p5))
 go_ret2
 exact⟨v5,rfl,S5.out.own,S5.out.low⟩
end EH
namespace W14
open Strs Al Cj
open BU (Beside)
open Kit (below_draws on)
def IV (r:Raw) (to e bad:Int):Array Value:= #[.int .i64 r.kind,.string r.text,.slice r.ad r.len r.cap,.int .i64 r.least,.int .i64 r.top,.int .i64 to,.int .i64 e,.int .i64 bad]
theorem X0:(Tryz.prog.info? 77).map (fun i=>(i.zero,i.size,i.bytes))=some (some (.agg #[.int .i64 0,.string ⟨#[]⟩,.slice none 0 0,.int .i64 0,.int .i64 0,.int .i64 0,.int .i64 0,.int .i64 0]),8,88):=by kernel_rfl
theorem Rq (r:Raw) (to e bad:Int):(Tryz.prog.info? 77).map (·.size)=some (IV r to e bad).size:=by
 obtain⟨i,hi,-,h2,-⟩:=info_parts X0
 rw[hi];simp[IV,h2]
theorem ku (r:Raw) (to e bad:Int):(IV r to e bad).all (·.oneCell')=true:=by simp[IV,Value.oneCell']
def Cq (w:World) (b:Nat) (r:Raw) (to e bad:Int):Prop:=w.heap[b]? =some (.cells (IV r to e bad) 77 (0,0))
section
variable {w w':World} {b:Nat} {r:Raw} {to e bad:Int}
theorem Cq.lt (h:Cq w b r to e bad):b<w.heap.size:=(Array.getElem?_eq_some_iff.1 h).1
theorem Cq.below (h:Cq w b r to e bad) (k:Below w.heap.size w w'):Cq w' b r to e bad:=(k.block b h.lt).trans h
theorem Cq.beside {c:Nat} (h:Cq w b r to e bad) (k:Beside c w w') (q:b≠c):Cq w' b r to e bad:=(k.block b h.lt q).trans h
theorem Cq.c5 (h:Cq w b r to e bad):w.cell? ⟨b,5,none⟩=some (.int .i64 to):=cell_of_row w b 5 _ _ _ h
theorem Cq.c6 (h:Cq w b r to e bad):w.cell? ⟨b,6,none⟩=some (.int .i64 e):=cell_of_row w b 6 _ _ _ h
theorem Cq.c7 (h:Cq w b r to e bad):w.cell? ⟨b,7,none⟩=some (.int .i64 bad):=cell_of_row w b 7 _ _ _ h
theorem Cq.free (h:Cq w b r to e bad) (i:Nat):w.frozen? ⟨b,i,none⟩=false:=frozen_of_row w b i _ _ h
theorem Cq.put (h:Cq w b r to e bad) (n:Int):Cq (w.setCell ⟨b,5,none⟩ (.int .i64 n)) b r n e bad:=by
 unfold Cq at*
 rw[heap_setCell_same w b 5 _ _ _ h];rfl
theorem Cq.raw (h:Cq w b r to e bad) (j:Nat) (hj:j<5):w.cell? ⟨b,0+j,none⟩=(Co r)[j]? :=by
 rw[Nat.zero_add,cell_of_row w b j _ _ _ h]
 match j,hj with
 |0,_=>rfl
 |1,_=>rfl
 |2,_=>rfl
 |3,_=>rfl
 |4,_=>rfl
end
theorem kv (w:World):(zeroValue 77).run Tryz.prog w= .ok (.agg (IV Af 0 0 0)) w:=by
 obtain⟨i,hi,h1,-,-⟩:=info_parts X0
 simp[zeroValue,typeInfo,hi,h1];rfl
theorem ek (k:Int) (t:ByteArray) (A:Option Addr) (n c:Nat) (l tp to:Int) (w:World):(Instr.build 77 #[(0,.agg #[.int .i64 k,.string t,.slice A n c,.int .i64 l,.int .i64 tp]),(1,.int .i64 to)]).run Tryz.prog w= .ok (.agg #[.int .i64 k,.string t,.slice A n c,.int .i64 l,.int .i64 tp,.int .i64 to,.int .i64 0,.int .i64 0]) w:=by kernel_rfl
theorem eu (e bad:Int) (w:World):(Instr.build 77 #[(2,.int .i64 e),(3,.int .i64 bad)]).run Tryz.prog w= .ok (.agg (IV Af 0 e bad)) w:=by kernel_rfl
section
variable {ops:Array Oper} {rest:List Oper} {o:Oper} {a:Act} {w:World} {Q:Exit->Act->World->Prop}
theorem Ab (hgd:o.guard=none) (ho:o.op= .alloc 77)
    (h: ∀w' b,w.heap.size=b->Cq w' b Af 0 0 0->Below w.heap.size w w'->w'.heap.size=w.heap.size+1->wpList Tryz.prog ops Q rest (a.put o.dst (.pointer (some ⟨b,0,none⟩))) w'):wpList Tryz.prog ops Q (o::rest) a w:=
 wpList_plain hgd fun _ hK=>by
  unfold Oper.wp execOp
  simp only[ho,Instr.alloc,newVar,newRow,kv,Sem.run_bind,Sem.run_pure,Result.andThen_ok]
  exact hK _ _ (h _ _ rfl (heap_alloc_new w _) (AZ w _) (World.size_alloc w _))
theorem He (hgd:o.guard=none) (x:Operand) (ho:o.op= .load 77 x) {b:Nat} (hx:a.eval x= .pointer (some ⟨b,0,none⟩)) {r:Raw} {to e bad:Int} (hr:Cq w b r to e bad) (h:wpList Tryz.prog ops Q rest (a.put o.dst (.agg (IV r to e bad))) w):wpList Tryz.prog ops Q (o::rest) a w:=
 wpList_load_row hgd 77 x ho b hx 77 (IV r to e bad) (0,0) _ hr Tryz.underlying77 rfl (Rq r to e bad) h
theorem AQ (hgd:o.guard=none) (x y:Operand) (ho:o.op= .store 77 x y) {b:Nat} {r old:Raw} {to e bad o_ e' bad':Int} (hx:a.eval x= .pointer (some ⟨b,0,none⟩)) (hy:a.eval y= .agg (IV r to e bad)) (hr:Cq w b old o_ e' bad')
    (h: ∀w',Cq w' b r to e bad->Beside b w w'->w'.heap.size=w.heap.size->wpList Tryz.prog ops Q rest (a.put o.dst undef) w'):wpList Tryz.prog ops Q (o::rest) a w:=
 wpList_store_row hgd 77 x y ho b (IV r to e bad) hx hy 77 (IV old o_ e' bad') hr (Rq r to e bad) rfl (ku r to e bad)
  (h _ (setRow_heap w b _ _ _ _ hr) ⟨rfl,rfl,rfl,by rw[setRow_size];exact Nat.le_refl _,fun k _ e=>setRow_other w b k _ e⟩ (setRow_size _ _ _))
theorem Cc (hgd:o.guard=none) (x y:Operand) (ho:o.op= .build 77 #[(0,x),(1,y)]) {r:Raw} {to:Int} (hx:a.eval x= .agg (Ak r)) (hy:a.eval y= .int .i64 to) (h:wpList Tryz.prog ops Q rest (a.put o.dst (.agg (IV r to 0 0))) w):wpList Tryz.prog ops Q (o::rest) a w:=
 wpList_plain hgd fun _ hK=>by
  have:=ek r.kind r.text r.ad r.len r.cap r.least r.top to w
  unfold Oper.wp execOp
  simp only[ho,List.map_toArray,List.map_cons,List.map_nil,hx,hy,Sem.run_bind,Ak,this,Sem.run_pure,Result.andThen_ok]
  exact hK _ _ h
theorem fA (hgd:o.guard=none) (x y:Operand) (ho:o.op= .build 77 #[(2,x),(3,y)]) {e bad:Int} (hx:a.eval x= .int .i64 e) (hy:a.eval y= .int .i64 bad) (h:wpList Tryz.prog ops Q rest (a.put o.dst (.agg (IV Af 0 e bad))) w):wpList Tryz.prog ops Q (o::rest) a w:=
 wpList_plain hgd fun _ hK=>by
  unfold Oper.wp execOp
  simp only[ho,List.map_toArray,List.map_cons,List.map_nil,hx,hy,Sem.run_bind,eu,Sem.run_pure,Result.andThen_ok]
  exact hK _ _ h
end
def Df (w:World) (g:Dg) (e:Ending) (w':World):Prop:=
 Below w.heap.size w w'/\match g with
 | .ok p to=> ∃r,e= .returned (.agg (IV r to 0 0))/\DF (In w.heap.size w'.heap.size) w' r p
 | .bad b er=>er≠0/\ ∃t,e= .returned (.agg (IV Af t er b))
theorem Av {fn:Func} {R:Ending->World->Prop} {a:Act} {w:World} {p:Tmp} {b:Nat} {r:Raw} {to er bad:Int} (hf:fn.results= #[.cell p 77]) (hp:a.tmps.getD p undef= .pointer (some ⟨b,0,none⟩)) (hr:Cq w b r to er bad) (hd:a.defers= [])
    (hR:R (.returned (.agg (IV r to er bad))) w):bodyPost Tryz.prog fn R .ret a w:=
 bodyPost_ret (results_cell_row hf a.tmps w b 77 (IV r to er bad) (0,0) _ hp hr Tryz.underlying77 rfl (Rq r to er bad)) hd hR
theorem Bj (b:Nat) (er:Int) (he:er≠0) (w:World):Calls Tryz.prog 153 #[.int .i64 b,.int .i64 er] w (Df w (.bad b er)):=by
 have HE:=hid he
 clear he
 go_enter Tryz.func153,Tryz.ntmps153
 go_wp2_with (first
  |(refine Ab rfl rfl ?_;intro w1 b1 e1 p1 l1 z1)
  |(refine fA rfl (.tmp 5) (.tmp 6) rfl rfl rfl ?_)
  |(refine AQ (r:=Af) rfl (.tmp 4) (.tmp 7) rfl rfl rfl p1 ?_;intro w2 p2 l2 z2))
 exact Av rfl rfl p2 rfl ⟨l1.trans (l2.below l1.size (by omega)),HE.out,0,rfl⟩
theorem DU (k:Int) (t:ByteArray) (to:Nat) (w:World):Calls Tryz.prog 110 #[.int .i64 k,.string t,.int .i64 to] w (Df w (.ok (Cj.leaf k t) to)):=by
 go_enter Tryz.func110,Tryz.ntmps110
 go_wp2_with (first
  |(refine Ab rfl rfl ?_;intro w1 b1 e1 p1 l1 z1)
  |(refine Cc (r:=⟨k,t,none,0,0,0,0⟩) rfl (.tmp 9) (.tmp 10) rfl rfl rfl ?_)
  |(refine AQ (r:=⟨k,t,none,0,0,0,0⟩) rfl (.tmp 6) (.tmp 11) rfl rfl rfl p1 ?_;intro w2 p2 l2 z2))
 exact Av rfl rfl p2 rfl ⟨l1.trans (l2.below l1.size (by omega)),_,rfl,DF.leaf _ _ k t⟩
end W14
namespace W14
open Cj
open Kit (below_draws on)
theorem Hf {s:ByteArray} {i:Nat} (h:i<s.size):s.data.toList.getD i 0=s[i]:=Kit.CO s i h
theorem ND {l:List UInt8}: ∀ {k:Nat},(l.take k).all Ch=true->(l.length<=k\/Ch (l.getD k 0)=false)->l.takeWhile Ch=l.take k:=by
 induction l with
 |nil=>intro k _ _;simp
 |cons c l ih=>
  intro k h1 h2
  cases k with
  |zero=>
   rcases h2 with h2|h2
   ·simp at h2
   have:Ch c=false:=h2
   rw[List.takeWhile_cons_of_neg (by rw[this];simp)];rfl
  |succ k=>
   rw[List.take_succ_cons,List.all_cons,Bool.and_eq_true]at h1
   rw[List.takeWhile_cons_of_pos h1.1,List.take_succ_cons,ih h1.2]
   rcases h2 with h2|h2
   ·exact .inl (by simp at h2;exact h2)
   exact .inr h2
theorem Rs {l:List UInt8} (h:(l.take 4).all Ch=true) (hl:4<=l.length):4<=(l.takeWhile Ch).length:=by
 match l,hl with
 |a::b::c::d::r,_=>
  simp only[List.take,List.all_cons,Bool.and_eq_true]at h
  rw[List.takeWhile_cons_of_pos h.1,List.takeWhile_cons_of_pos h.2.1,List.takeWhile_cons_of_pos h.2.2.1,List.takeWhile_cons_of_pos h.2.2.2.1]
  simp
theorem OB {l:List UInt8} {k:Nat} (h:k<l.length):l.take (k+1)=l.take k++ [l.getD k 0]:=by
 rw[List.take_succ_eq_append_getElem h,List.getD_eq_getElem?_getD,List.getElem?_eq_getElem h];rfl
theorem ky (t:List UInt8) (c:UInt8):val (t++ [c])=val t*10+(c.toNat-48):=by
 unfold val;rw[List.foldl_append];rfl
theorem Rt: ∀(t:List UInt8) (n:Nat),t.all Ch=true->t.foldl (fun n c=>n*10+(c.toNat-48)) n+1<=(n+1)*10^t.length
 | [],n,_=>by simp
 |c::t,n,h=>by
  rw[List.all_cons,Bool.and_eq_true]at h
  have h2:=h.1
  unfold Ch at h2
  simp only[Bool.and_eq_true,decide_eq_true_eq]at h2
  have h3:c.toNat<=57:=h2.2
  have h4:=Rt t (n*10+(c.toNat-48)) h.2
  rw[List.foldl_cons,List.length_cons,Nat.pow_succ]
  refine Nat.le_trans h4 ?_
  rw[Nat.mul_comm (10^t.length) 10,<-Nat.mul_assoc]
  exact Nat.mul_le_mul_right _ (by omega)
theorem Ui {t:List UInt8} (h:t.all Ch=true) (hl:t.length<=3):val t<=999:=by
 have:=Rt t 0 h
 have h2:10^t.length<=10^3:=Nat.pow_le_pow_right (by decide) hl
 unfold val
 omega
theorem kz {c:UInt8}:Ch c=(decide ((48:Int)<=(c.toNat:Int))&&decide ((c.toNat:Int)<=57)):=by
 unfold Ch
 congr 1
 ·exact decide_eq_decide.2 ⟨fun h=>by have:(48:UInt8).toNat<=c.toNat:=h;simp at this;omega,fun h=>by show(48:UInt8).toNat<=c.toNat;simp;omega⟩
 exact decide_eq_decide.2 ⟨fun h=>by have:c.toNat<=(57:UInt8).toNat:=h;simp at this;omega,fun h=>by show c.toNat<=(57:UInt8).toNat;simp;omega⟩
def Am (S:List UInt8) (at_:Nat):Int×Nat:=if isNum ((S.drop at_).takeWhile Ch)then((val ((S.drop at_).takeWhile Ch):Int),at_+((S.drop at_).takeWhile Ch).length)else(-1,at_)
theorem Fs (S:List UInt8) (i k:Nat):(S.drop i).getD k 0=S.getD (i+k) 0:=by
 rw[List.getD_eq_getElem?_getD,List.getElem?_drop,List.getD_eq_getElem?_getD]
theorem Lr {S:List UInt8} {at_ k:Nat} (hk:k<=3) (h0:k≠0) (h1:((S.drop at_).take k).all Ch=true) (h2:S.length<=at_+k\/Ch (S.getD (at_+k) 0)=false) (hl:at_+k<=S.length):Am S at_=((val ((S.drop at_).take k):Int),at_+k):=by
 have e:(S.drop at_).takeWhile Ch=(S.drop at_).take k:=ND h1 (by
  rcases h2 with h2|h2
  ·exact .inl (by rw[List.length_drop];omega)
  exact .inr (by rw[Fs];exact h2))
 have hln:((S.drop at_).take k).length=k:=by rw[List.length_take,List.length_drop];omega
 unfold Am
 rw[e,hln,if_pos]
 unfold isNum
 rw[h1,hln,decide_eq_true hk,decide_eq_true (by intro q;rw[q]at hln;simp at hln;omega)];rfl
theorem KF {S:List UInt8} {at_:Nat} (h2:S.length<=at_\/Ch (S.getD at_ 0)=false):Am S at_=(-1,at_):=by
 have e:(S.drop at_).takeWhile Ch=(S.drop at_).take 0:=ND (by simp) (by
  rcases h2 with h2|h2
  ·exact .inl (by rw[List.length_drop];omega)
  exact .inr (by rw[Fs];exact h2))
 unfold Am
 rw[e,if_neg]
 unfold isNum;simp
theorem X4 {S:List UInt8} {at_:Nat} (h1:((S.drop at_).take 3).all Ch=true) (h2:at_+3<S.length) (h3:Ch (S.getD (at_+3) 0)=true):Am S at_=(-1,at_):=by
 have hl:4<=(S.drop at_).length:=by rw[List.length_drop];omega
 have h4:((S.drop at_).take 4).all Ch=true:=by
  rw[OB (k:=3) (by omega),List.all_append,h1,Fs];show(true&&(Ch (S.getD (at_+3) 0)&&true))=true;rw[h3];rfl
 have:=Rs h4 hl
 unfold Am
 rw[if_neg]
 unfold isNum
 rw[decide_eq_false (p:=((S.drop at_).takeWhile Ch).length<=3) (by omega)]
 simp
theorem Ar (s:ByteArray) (at_:Nat) (hat:at_<=s.size) (hs:s.size<=900) (w:World):Calls Tryz.prog 156 #[.string s,.int .i64 at_] w fun e w'=>e= .returned (.tuple #[.int .i64 (Am s.data.toList at_).1,.int .i64 (Am s.data.toList at_).2])/\ ∃n,w'=w.drewN n:=by
 have hlen:s.data.toList.length=s.size:=(Lib.size_eq s).symm
 obtain⟨D,hD⟩: ∃D,Am s.data.toList at_=D:=⟨_,rfl⟩
 rw[hD]
 have HD:=hid hD
 have HLEN:=hid hlen
 clear hD hlen
 go_enter Tryz.func156,Tryz.ntmps156
 go_wp2_with fail
 go_loopg [6,7] 3 (fun g s6 s7 wr=> ∃k i m:Nat,Hid (k+g=3)/\Hid (i=at_+k)/\Hid (i<=s.size)/\Hid (m=val ((s.data.toList.drop at_).take k))/\s6= .int .i64 m/\s7= .int .i64 i/\Hid (((s.data.toList.drop at_).take k).all Ch=true)/\ ∃n,wr=w.drewN n)
 case atStart=>exact⟨0,at_,0,rfl,rfl,hat,rfl,rfl,rfl,rfl,0,rfl⟩
 case round=>
  obtain⟨k,i,m,hk,hi,his,hm,rfl,rfl,hall,n,rfl⟩:=hrel
  have hkl:((s.data.toList.drop at_).take k).length=k:=by have:=hk.out;have:=hi.out;have:=his.out;rw[List.length_take,List.length_drop,HLEN.out];omega
  have hv:=Ui hall.out (by rw[hkl];have:=hk.out;omega)
  rw[<-hm.out]at hv
  by_cases hlt:i<s.size
  ·have hlt2:(i:Int)<(s.size:Int):=by omega
   have hget:s.data.toList.getD (at_+k) 0=s[i]:=by rw[<-hi.out];exact Hf hlt
   cases hdg:Ch s[i]with
   |true=>
    have hdd:=hdg
    rw[kz,Bool.and_eq_true,decide_eq_true_eq,decide_eq_true_eq]at hdd
    obtain⟨hd1,hd2⟩:=hdd
    cases gk with
    |zero=>
     have hk3:k=3:=by have:=hk.out;omega
     subst hk3
     have HX:=hid (X4 hall.out (by have:=hi.out;rw[HLEN.out];omega) (by rw[hget];exact hdg))
     have hq:(i:Int)-(at_:Int)=3:=by have:=hi.out;omega
     clear hdg hget hkl hv
     go_wp2_with fail
     go_ret2
     exact⟨by rw[<-HD.out,HX.out];rfl,n,rfl⟩
    |succ g=>
     have hq:(i:Int)-(at_:Int)<3:=by have:=hi.out;have:=hk.out;omega
     have hv2:(m:Int)<=999:=by omega
     have HA:Hid (((s.data.toList.drop at_).take (k+1)).all Ch=true):=by
      unfold Hid
      rw[OB (by have:=hi.out;rw[List.length_drop,HLEN.out];omega),List.all_append,hall.out,Fs,hget]
      show(true&&(Ch s[i]&&true))=true
      rw[hdg];rfl
     have HM:Hid (m*10+(s[i].toNat-48)=val ((s.data.toList.drop at_).take (k+1))):=by
      unfold Hid
      rw[OB (by have:=hi.out;rw[List.length_drop,HLEN.out];omega),ky,Fs,hget,hm.out]
     have hlt3:i+1<=s.size:=hlt
     have HS:=hid hlt3
     clear hdg hget hkl hlt3
     go_wp2_with fail
     go_roundg g
     case measure=>omega
     case rel=>exact⟨k+1,i+1,m*10+(s[i].toNat-48),by have:=hk.out;show _=_;omega,by have:=hi.out;show _=_;omega,HS.out,HM.out,by congr 1;omega,by first|rfl|(congr 1),HA.out,n,rfl⟩
   |false=>
    have HE:Hid (s.data.toList.length<=at_+k\/Ch (s.data.toList.getD (at_+k) 0)=false):= .inr (by rw[hget];exact hdg)
    rw[kz]at hdg
    by_cases hd1:(48:Int)<=(s[i].toNat:Int)
    ·have hd2: ¬(s[i].toNat:Int)<=57:=by
       intro q
       rw[decide_eq_true hd1,decide_eq_true q]at hdg
       cases hdg
     clear hdg hget hkl
     by_cases hk0:k=0
     ·have hq:((i:Int)==(at_:Int))=true:=by have:=hi.out;simpa using (by omega:(i:Int)=(at_:Int))
      have HX:=hid (KF (S:=s.data.toList) (at_:=at_) (by have:=hi.out;subst hk0;rw[Nat.add_zero]at *;exact HE.out))
      clear hk0
      go_wp2_with fail
      go_ret2
      exact⟨by rw[<-HD.out,HX.out];rfl,n,rfl⟩
     have hq:((i:Int)==(at_:Int))=false:=by have:=hi.out;simpa using (by omega: ¬(i:Int)=(at_:Int))
     have HX:=hid (Lr (S:=s.data.toList) (at_:=at_) (by have:=hk.out;omega) hk0 hall.out HE.out (by have:=hi.out;have:=his.out;rw[HLEN.out];omega))
     clear hk0
     go_wp2_with fail
     go_ret2
     exact⟨by rw[<-HD.out,HX.out,<-hm.out,<-hi.out];rfl,n,rfl⟩
    clear hdg hget hkl
    by_cases hk0:k=0
    ·have hq:((i:Int)==(at_:Int))=true:=by have:=hi.out;simpa using (by omega:(i:Int)=(at_:Int))
     have HX:=hid (KF (S:=s.data.toList) (at_:=at_) (by have:=hi.out;subst hk0;rw[Nat.add_zero]at *;exact HE.out))
     clear hk0
     go_wp2_with fail
     go_ret2
     exact⟨by rw[<-HD.out,HX.out];rfl,n,rfl⟩
    have hq:((i:Int)==(at_:Int))=false:=by have:=hi.out;simpa using (by omega: ¬(i:Int)=(at_:Int))
    have HX:=hid (Lr (S:=s.data.toList) (at_:=at_) (by have:=hk.out;omega) hk0 hall.out HE.out (by have:=hi.out;have:=his.out;rw[HLEN.out];omega))
    clear hk0
    go_wp2_with fail
    go_ret2
    exact⟨by rw[<-HD.out,HX.out,<-hm.out,<-hi.out];rfl,n,rfl⟩
  have hlt2: ¬(i:Int)<(s.size:Int):=by omega
  have HE:Hid (s.data.toList.length<=at_+k\/Ch (s.data.toList.getD (at_+k) 0)=false):= .inl (by have:=hi.out;rw[HLEN.out];omega)
  clear hkl
  by_cases hk0:k=0
  ·have hq:((i:Int)==(at_:Int))=true:=by have:=hi.out;simpa using (by omega:(i:Int)=(at_:Int))
   have HX:=hid (KF (S:=s.data.toList) (at_:=at_) (by have:=hi.out;subst hk0;rw[Nat.add_zero]at *;exact HE.out))
   clear hk0
   go_wp2_with fail
   go_ret2
   exact⟨by rw[<-HD.out,HX.out];rfl,n,rfl⟩
  have hq:((i:Int)==(at_:Int))=false:=by have:=hi.out;simpa using (by omega: ¬(i:Int)=(at_:Int))
  have HX:=hid (Lr (S:=s.data.toList) (at_:=at_) (by have:=hk.out;omega) hk0 hall.out HE.out (by have:=hi.out;have:=his.out;rw[HLEN.out];omega))
  clear hk0
  go_wp2_with fail
  go_ret2
  exact⟨by rw[<-HD.out,HX.out,<-hm.out,<-hi.out];rfl,n,rfl⟩
end W14
end Go.Proofs.YtfgegjinhkgpbaaGreatDoor
