/-
  Texts joined, in build order, each with its own comment and its own conditions: W15Alt, W15Once, W15Again.
-/
import Derived.Test.YtfgegjinhkgpbaaGreatDoorTake
import Derived.Test.YtfgegjinhkgpbaaGreatDoorJ08
import Derived.Deep.LoopGhost
import Derived.Deep.RegionHeld3
import Derived.BigQuiet
namespace Go.Proofs.YtfgegjinhkgpbaaGreatDoor
set_option maxHeartbeats 4000000
set_option maxRecDepth 100000
open Go.RowKit
open Lib (hid)
namespace EH
open Strs Al Bv
open Cj (Piece size sizes)
open W14 (Raw Ea Ak Co DF FT Ad AZ AO Bi BL AV AU CB Aq AJ AB AY EF)
open BU (Beside)
open Kit (below_draws on)
theorem J8 {w w':World} {b c:Nat} {v v':Value} {L:List AL} {r:Raw} (hp:Ad w c r) (hl:Lay w b v L) (hb:c≠b) (hg:Grow b v v' w w'):Ad w' c r:=by
 refine(hg.block c hp.lt hb fun q=> ?_).trans hp
 obtain⟨cur,h1⟩:=ED hl.own q
 have h2:w.heap[c]? =_:=hp
 rw[h1]at h2
 injection h2 with h2
 injection h2 with _ h2
 exact absurd h2 (by decide)
theorem oV {w w':World} {base c:Nat} {v v':Value} {M:List Nat} {r:Raw} (hp:Ad w c r) (hl:D_ base w v M) (hg:Put v v' w w'):Ad w' c r:=by
 obtain⟨-,-,-,-,g5⟩:=hg.grown
 refine(g5 c hp.lt fun q=> ?_).trans hp
 obtain⟨cur,h1⟩:=ED hl q.symm
 have h2:w.heap[c]? =_:=hp
 rw[h1]at h2
 injection h2 with h2
 injection h2 with _ h2
 exact absurd h2 (by decide)
theorem oW {ks T:List Piece} (hs: ∀q,q∈ks-> ∀a,(steps q a).length=size q) (hm: ∀q,q∈T->q∈ks) {j:Nat} (hj:j<T.length) (a e:Nat): ∃X Z,pre (T.take j) a e++pre (T.drop j) (a+Cu (T.take j)) 0=X++Bv.jump 0::Z/\pre (T.take (j+1)) a e++pre (T.drop (j+1)) (a+Cu (T.take (j+1))) 0=X++Bv.jump e::Z/\(EX T a)[j]? =some (a+X.length):=by
 obtain⟨q,hq⟩: ∃q,T[j]=q:=⟨_,rfl⟩
 have hd:T.drop j=q::T.drop (j+1):=by rw[List.drop_eq_getElem_cons hj,hq]
 have ht:T.take (j+1)=T.take j++ [q]:=by rw[List.take_succ_eq_append_getElem hj,hq]
 have hp:Cu (T.take (j+1))=Cu (T.take j)+(size q+2):=by
  rw[ht];unfold Cu;rw[Cj.DN,List.length_append];simp only[sizes,List.length_cons,List.length_nil];omega
 have hqm:q∈ks:=hm q (by rw[<-hq];exact List.getElem_mem hj)
 refine⟨pre (T.take j) a e++split (a+Cu (T.take j)+1) (a+Cu (T.take j)+size q+2)::steps q (a+Cu (T.take j)+1),pre (T.drop (j+1)) (a+Cu (T.take j)+size q+2) 0,?_,?_,?_⟩
 ·rw[hd]
  simp only[pre,List.append_assoc,List.cons_append]
 ·rw[hp,ht,JJ,show a+(Cu (T.take j)+(size q+2))=a+Cu (T.take j)+size q+2 by omega]
  simp only[pre,List.append_assoc,List.cons_append,List.nil_append]
 have h1:EX T a=EX (T.take j) a++EX (T.drop j) (a+Cu (T.take j)):=by
   have:=JK (T.take j) (T.drop j) a
   rw[List.take_append_drop]at this
   exact this
 have h2:(EX (T.take j) a).length=j:=by rw[KP,List.length_take];omega
 rw[h1,List.getElem?_append_right (by omega),h2,Nat.sub_self,hd]
 rw[List.length_append,List.length_cons,Hz hs e _ _ (fun r hr=>hm r (List.mem_of_mem_take hr)),hs q hqm]
 simp only[EX,List.getElem?_cons_zero]
 congr 1
 omega
theorem sO {w:World} {b:Nat} {v:Value} {L:List AL} (h:Lay w b v L) (hl:L.length<=900000):Calls Tryz.prog 132 #[.pointer (some ⟨b,0,none⟩),.int .i64 0] w (Y0 b v w L.length (L++ [Bv.jump 0])):=Ws h hl 0
theorem Lay.shape {w:World} {b:Nat} {v:Value} {L:List AL} (h:Lay w b v L) (hl:0<L.length): ∃g c,v= .slice (some ⟨g,0,none⟩) L.length c/\L.length<=c/\c<=9223372036854775807:=by
 obtain⟨g,c,e,-,-,h1,h2⟩:=BL h.own hl
 unfold maxLen at h2
 exact⟨g,c,e,h1,h2⟩
theorem J9 {a:Int} {n:Nat} (h:a=(n:Int)) (hn:n<=9223372036854775807):wrap64 a=(n:Int):=by subst h;unfold wrap64;omega
set_option maxHeartbeats 8000000 in
theorem oZ {ks:List Piece} (IH: ∀i (hi:i<ks.length),Mh ks[i]) (hs: ∀q,q∈ks-> ∀a,(steps q a).length=size q) {w:World} {b:Nat} {v:Value} {L:List AL} {k:Int} {t:ByteArray} {A:Option Addr} {c:Nat} {m tp:Int} {Ag:List Raw} (h:Lay w b v L) (k1:EU b w A c Ag ks) {n E:Nat} (hn:ks.length=n+1) (hE:L.length+(sizes ks+2*n)=E) (hl:E<=4000):
    Calls Tryz.prog 106 #[.pointer (some ⟨b,0,none⟩),.agg (Ak ⟨k,t,A,ks.length,c,m,tp⟩)] w (Laid b v w (L++alts ks L.length E)):=by
 have H:=hid h
 have HI:=hid IH
 have HS:=hid hs
 have K1:=hid k1
 have HN:=hid hn
 have hr:=(k1.kids (Nat.le_of_lt h.box.lt)).room
 have HL:=hid hl
 have HE:=hid hE
 have HA:=hid (show ks.length<=c/\c<=9223372036854775807 from hr)
 rw[hn]at hr ⊢
 have hr1:=hr.1
 have hr2:=hr.2
 have hw1:wrap64 ((((n+1:Nat):Int))-1)=(n:Int):=J9 (by omega) (by omega)
 clear h IH hs k1 hl hr hn hE
 go_enter Tryz.func106,Tryz.ntmps106
 go_wp2_with (first
  |(refine AV (r:=⟨k,t,A,n+1,c,m,tp⟩) rfl (.tmp 1) rfl rfl ?_;intro w1 b1 e1 p1 l1 z1;have P1:=hid p1;have a2:=p1.c2;have L1:=hid l1;have HB3:=hid (show b1≠b by have:=H.out.box.lt;omega);clear e1 p1 l1 z1;simp only at a2))
 have H1:=hid (H.out.below L1.out)
 have K2:=hid (K1.out.below H.out.box.lt L1.out)
 have HT:=hid H.out.box.lt
 clear a2 hr1 hr2 hw1
 go_loopg [5,20] n (fun gk s5 s20 wr=> ∃(i:Nat) (v1 vj:Value),s5=vj/\s20= .int .i64 i/\Hid (i+gk=n)/\Hid (Lay wr b v1 (L++pre ((ks.take n).take i) L.length 0))/\Hid (D_ w.heap.size wr vj (EX ((ks.take n).take i) L.length))/\Hid (EU b wr A c Ag ks)/\Hid (Grow b v v1 w wr)/\Hid (Ad wr b1 ⟨k,t,A,n+1,c,m,tp⟩))
 case atStart=>exact⟨0,v,.slice none 0 0,rfl,rfl,by unfold Hid;omega,by unfold Hid;simp only[List.take_zero,pre,List.append_nil];exact H1.out,D_.nil _ _,K2,Grow.of L1.out,P1⟩
 case round=>
  obtain⟨i,v1,vj,rfl,rfl,hig,IW,NN,KK,GG,PP⟩:=hrel
  by_cases hi:i<n
  ·have ti:(i:Int)<(n:Int):=by omega
   have vH:n<=ks.length:=by have:=HN.out;omega
   obtain⟨p,hp,⟨hik,hpe⟩,htk,-⟩:=take_one hi vH
   have hlt:=IW.out.box.lt
   obtain⟨g1,o1,rfl,C1⟩:=(KK.out.kids (Nat.le_of_lt hlt)).at_ (Nat.lt_of_le_of_lt (Nat.zero_le _) hik)
   obtain⟨hr1,q1⟩:=KK.out.kid hik
   have E1:=hid (C1 i hr1)
   have Q1:=hid q1
   obtain⟨rk,Hy⟩: ∃rk,Ag[i]'hr1=rk:=⟨_,rfl⟩
   rw[Hy]at E1 Q1
   rw[hpe]at Q1
   have UT:(pre ((ks.take n).take i) L.length 0).length=Cu ((ks.take n).take i):=Hz HS.out 0 _ _ (fun q hq=>List.mem_of_mem_take (List.mem_of_mem_take hq))
   obtain⟨Li,RI⟩: ∃Li,L++pre ((ks.take n).take i) L.length 0=Li:=⟨_,rfl⟩
   obtain⟨N,hN⟩: ∃N,Li.length=N:=⟨_,rfl⟩
   have J2:N=L.length+Cu ((ks.take n).take i):=by rw[<-hN,<-RI,List.length_append,UT]
   obtain⟨s,hsz⟩: ∃s,size p=s:=⟨_,rfl⟩
   have hb:N+s+2<=4000:=by
    have h1:Cu ((ks.take n).take (i+1))=Cu ((ks.take n).take i)+(s+2):=by
     rw[htk];unfold Cu;rw[Cj.DN,List.length_append];simp only[sizes,List.length_cons,List.length_nil];omega
    have h2:Cu ((ks.take n).take (i+1))<=Cu ks:=by
     unfold Cu
     have a1:=Cz (ks.take n) (i+1)
     have a2:=Cz ks n
     have a3:((ks.take n).take (i+1)).length<=i+1:=by rw[List.length_take];omega
     have a4:sizes ((ks.take n).take (i+1))+2*((ks.take n).take (i+1)).length<=sizes ks+2*n:=by omega
     have:=HN.out
     omega
    have h3:Cu ((ks.take n).take (i+1))<=sizes ks+2*n:=by
     unfold Cu
     have a1:=Cz (ks.take n) (i+1)
     have a2:=Cz ks n
     have a3:((ks.take n).take (i+1)).length<=i+1:=by rw[List.length_take];omega
     omega
    have:=HE.out
    have:=HL.out
    omega
   rw[RI]at IW
   have EN:=hid hN
   have yF:=hid hb
   -- what the round comes to
   have HR:Hid (L++pre ((ks.take n).take (i+1)) L.length 0=Li++split (N+1) (N+s+2)::(steps p (N+1)++ [Bv.jump 0])):=by
    unfold Hid
    rw[htk,JJ,<-RI,List.append_assoc,<-J2]
    simp only[pre,hsz]
   have jl:Hid (EX ((ks.take n).take (i+1)) L.length=EX ((ks.take n).take i) L.length++ [N+s+1]):=by
    unfold Hid
    rw[htk,JK,<-J2]
    simp only[EX,hsz]
   have VT:Hid (∀a,(steps p a).length=s):=by unfold Hid;rw[<-hsz];exact HS.out p hp
   have HC:Hid (∀(w:World) (v:Value) (L':List AL),L'.length=N+1->Lay w b v L'->DF (fun k=>k<b) w rk p->Calls Tryz.prog 77 #[.pointer (some ⟨b,0,none⟩),.agg (Ak rk)] w (Laid b v w (L'++steps p (N+1)))):=by
    intro w v L' h0 h1 h2
    have h3:=HI.out i hik w b v L' rk h1 (by rw[hpe];exact h2) (by rw[h0,hpe,hsz];omega)
    rw[hpe,h0]at h3
    exact h3
   have qX:Hid ((EX ((ks.take n).take i) L.length).length<=4000):=by
    unfold Hid
    rw[KP,List.length_take]
    have:i<=Cu ((ks.take n).take i):=by
     unfold Cu
     rw[List.length_take,List.length_take];omega
    omega
   have DT:Hid (wrap64 ((i:Int)+1)=((i+1:Nat):Int)):=by unfold Hid wrap64;have:=HA.out.1;have:=HA.out.2;have:=HN.out;omega
   have hn1:n<=c:=by have:=HA.out.1;have:=HN.out;omega
   have hn2:=HA.out.2
   have HT2:=hid hlt
   have HI2:=hid hi
   obtain⟨M0,hM0⟩: ∃M0,EX ((ks.take n).take i) L.length=M0:=⟨_,rfl⟩
   rw[hM0]at jl qX NN
   clear C1 q1 Hy hlt UT RI hN J2 hsz hb hp hpe hik htk vH hr1 hM0 hi
   go_wp2_with (first
    |(refine Aq rfl (.tmp 22) rfl rfl (r:=rk) E1.out ?_)
    |(refine AJ rfl rfl ?_;intro w3 b3 e3 p3 l3 z3)
    |(refine AB (r:=rk) rfl (.tmp 7) (.tmp 23) rfl rfl rfl p3 ?_;intro w4 p4 l4 z4;have L4:=hid (AY l3 l4 e3);have P4:=hid p4;have B4:=hid (show b3≠b by have:=HT2.out;omega);clear e3 p3 l3 z3 p4 l4 z4))
   have H4:=hid (IW.out.below L4.out)
   have K4:=hid (KK.out.below HT2.out L4.out)
   have N4:=hid (NN.out.below L4.out)
   have G4:=hid (GG.out.trans (Grow.of L4.out))
   have PP4:=hid (PP.out.below L4.out)
   have Q4:=hid (CV L4.out HT2.out Q1.out)
   refine(F9 H4.out (by rw[EN.out];have:=yF.out;omega) 6 ⟨#[]⟩).mono ?_
   rintro e w5 ⟨rfl,v5,h5,g5⟩
   rw[EN.out]
   rw[EN.out]at h5
   have H5:=hid h5
   have P5:=hid (J8 P4.out H4.out B4.out g5)
   have K5:=hid (K4.out.grow H4.out g5)
   have N5:=hid (N4.out.grow H4.out HT.out g5)
   have G5:=hid (G4.out.trans g5)
   have PP5:=hid (J8 PP4.out H4.out HB3.out g5)
   have Q5:=hid (g5.piece H4.out Q4.out)
   clear h5 g5
   go_wp2_with (first|(refine AU (r:=rk) rfl (.tmp 7) rfl rfl P5.out ?_))
   obtain⟨J,hJ⟩: ∃J,N+s+1=J:=⟨_,rfl⟩
   obtain⟨q,hq⟩: ∃q,N+s+2=q:=⟨_,rfl⟩
   rw[hJ]at jl
   rw[hq]at HR
   have HQ:=hid (show N+1<=q/\q<=4000 from⟨by omega,by have:=yF.out;omega⟩)
   have hl5:(Li++ [(⟨6,⟨#[]⟩,((N+1:Nat):Int),0⟩:AL)]).length=N+1:=by rw[List.length_append,EN.out];rfl
   have uN:(Li++ [(⟨6,⟨#[]⟩,((N+1:Nat):Int),0⟩:AL)]++steps p (N+1)).length=J:=by rw[List.length_append,hl5,VT.out];omega
   have sP:(Li++ [(⟨6,⟨#[]⟩,((N+1:Nat):Int),0⟩:AL)]++steps p (N+1)++ [Bv.jump 0]).length=q:=by rw[List.length_append,uN];simp only[List.length_cons,List.length_nil];omega
   have vI:=hid uN
   have yG:=hid sP
   have HJB:=hid (show J<=4000 by have:=yF.out;omega)
   refine(HC.out _ _ _ hl5 H5.out Q5.out).mono ?_
   rintro e w6 ⟨rfl,v6,h6,g6⟩
   clear hl5 uN sP hJ hq
   have H6:=hid h6
   have K6:=hid (K5.out.grow H5.out g6)
   have N6:=hid (N5.out.grow H5.out HT.out g6)
   have G6:=hid (G5.out.trans g6)
   have PP6:=hid (J8 PP5.out H5.out HB3.out g6)
   clear h6 g6
   go_wp2_with fail
   refine(sO H6.out (by rw[vI.out];have:=HJB.out;omega)).mono ?_
   rintro e w7 ⟨rfl,v7,h7,g7⟩
   rw[vI.out]
   have K7:=hid (K6.out.grow H6.out g7)
   have N7:=hid (N6.out.grow H6.out HT.out g7)
   have G7:=hid (G6.out.trans g7)
   have PP7:=hid (J8 PP6.out H6.out HB3.out g7)
   obtain⟨gs,cs,hv7,hq1,hq2⟩:=h7.shape (by rw[yG.out];have:=HQ.out;omega)
   rw[yG.out]at hv7 hq1
   subst hv7
   have H7:Hid (Lay w7 b (.slice (some ⟨gs,0,none⟩) q cs) (Li++(⟨6,⟨#[]⟩,((N+1:Nat):Int),0⟩:AL)::(steps p (N+1)++ [Bv.jump 0]))):=by
    have:=h7
    rw[List.append_assoc,List.append_assoc]at this
    exact this
   clear h7 g7
   have HCS:=hid (show q<=cs/\cs<=9223372036854775807 from⟨hq1,hq2⟩)
   clear hq1 hq2
   go_wp2_with (first
    |(refine Ih (n:=J) rfl (.tmp 31) rfl rfl ?_;intro w8 b8 e8 p8 l8 z8;have L8:=hid l8;have P8:=hid p8;clear e8 p8 l8 z8)
    |(refine Gt rfl (.tmp 29) (.tmp 32) rfl rfl rfl (N7.out.below L8.out) P8.out (by have:=qX.out;simp only[List.length_cons,List.length_nil];omega) (Nat.le_trans G7.out.size L8.out.size) ?_;intro vn w9 o9 p9;have N9:=hid o9;have P9:=hid p9;clear o9 p9))
   have H9:=hid ((H7.out.below L8.out).XH (N7.out.below L8.out) HT.out P9.out)
   have K9:=hid ((K7.out.below H7.out.box.lt L8.out).put (N7.out.below L8.out) HT.out (H7.out.below L8.out).box.lt P9.out)
   have G9:=hid ((G7.out.trans (Grow.of L8.out)).put P9.out fun k hk=>(N7.out.lt k hk).1)
   have PP9:=hid (oV (PP7.out.below L8.out) (N7.out.below L8.out) P9.out)
   have D9:=hid (below_draws w9 1)
   have sQ:=hid (H9.out.below D9.out)
   have HH:Hid (Calls Tryz.prog 133 #[.pointer (some ⟨b,0,none⟩)] (w9.drewN 1) fun e w'=>e= .returned (.int .i64 q)/\w'=w9.drewN 1):=by
    have h1:=ES sQ.out
    have h2:(Li++(⟨6,⟨#[]⟩,((N+1:Nat):Int),0⟩:AL)::(steps p (N+1)++ [Bv.jump 0])).length=q:=by rw[<-yG.out];simp only[List.append_assoc,List.cons_append,List.nil_append]
    rw[h2]at h1
    exact h1
   have S0:Hid ((w9.drewN 1).cell? ⟨b,0,none⟩=some (.slice (some ⟨gs,0,none⟩) q cs)):=sQ.out.box.c0
   obtain⟨-,f2,f3⟩:=sQ.out.field EN.out
   simp only at f2
   have f3:=f3 (N*4+3)
   have SET:=sQ.out.rJ (q:Int)
   rw[EN.out]at SET
   have HX:=hid SET
   have SE:Hid (((w9.drewN 1).setCell ⟨gs,N*4+3,none⟩ (.int .i64 q)).cell? ⟨b,0,none⟩=some (.slice (some ⟨gs,0,none⟩) q cs)):=SET.1.box.c0
   clear SET
   have tq:(N:Int)<(q:Int):=by have:=HQ.out;omega
   refine wp_region_held_drew (S:=fun w'=>w'.cell? ⟨b,0,none⟩=some (.slice (some ⟨gs,0,none⟩) q cs)) (by kernel_rfl) S0.out (fun hHeld=> ?_)
   refine Take.k 0 ⟨some 34,.move (.tmp 0),_,_,_,none⟩ ?_
   refine Take.k 1 ⟨some 35,.nilCheck (.tmp 34),_,_,_,none⟩ ?_
   refine Take.k 2 ⟨some 36,.fieldAddr 104 (.tmp 35) 0,_,_,_,none⟩ ?_
   refine Take.k 3 ⟨some 37,.load 46 (.tmp 36),_,_,_,none⟩ ?_
   refine Take.k 4 ⟨some 38,.move (.tmp 8),_,_,_,none⟩ ?_
   refine Take.k 5 ⟨some 39,.move (.tmp 0),_,_,_,none⟩ ?_
   refine wpAnyH_ready (rs:= [6]) (by kernel_rfl) (by simp) ?_
   refine AllReadyH.cons (o:=⟨some 40,.call ⟨.value (.func 133), #[.tmp 39], #[99]⟩,_,_,_,none⟩) rfl (fun K hK=> ?_) AllReadyH.nil
   go_simp
   (go_at_call 133;refine HH.out.mono ?_;rintro e x1 ⟨rfl,rfl⟩)
   go_wp2_with fail
   refine hK.out _ _ ?_ (fun hHeld=> ?_)
   ·exact S0.out
   clear hK K
   try simp only[Act.put,Take.a,Take.b,Take.c]
   refine Take.k 7 ⟨some 41,.indexAddr 46 (.tmp 37) (.tmp 38),_,_,_,none⟩ ?_
   refine Take.k 8 ⟨some 42,.fieldAddr 106 (.tmp 41) 3,_,_,_,none⟩ ?_
   refine wpAnyH_ready (rs:= [9]) (by kernel_rfl) (by simp) ?_
   refine AllReadyH.cons (o:=⟨none,.store 3 (.tmp 42) (.tmp 40),_,_,_,none⟩) rfl (fun K hK=> ?_) AllReadyH.nil
   go_simp
   skip
   go_wp2_with fail
   refine hK.out _ _ ?_ (fun hHeld=> ?_)
   ·exact SE.out
   clear hK K
   try simp only[Act.put,Take.a,Take.b,Take.c]
   refine wpAnyH_done (by kernel_rfl) ?_ _
   have H10:Hid (Lay ((w9.drewN 1).setCell ⟨gs,N*4+3,none⟩ (.int .i64 q)) b (.slice (some ⟨gs,0,none⟩) q cs) (L++pre ((ks.take n).take (i+1)) L.length 0)):=by unfold Hid;rw[HR.out];exact HX.out.1
   have N10:Hid (D_ w.heap.size ((w9.drewN 1).setCell ⟨gs,N*4+3,none⟩ (.int .i64 q)) vn (EX ((ks.take n).take (i+1)) L.length)):=by unfold Hid;rw[jl.out];exact(D_.below N9.out D9.out).grow sQ.out HT.out HX.out.2
   have K10:=hid ((K9.out.below H9.out.box.lt D9.out).grow sQ.out HX.out.2)
   have G10:=hid ((G9.out.trans (Grow.of D9.out)).trans HX.out.2)
   have yH:=hid (J8 (PP9.out.below D9.out) sQ.out HB3.out HX.out.2)
   clear f2 f3 tq
   cases gk with
   |zero=>exact absurd hig.out (by have:=HI2.out;omega)
   |succ g=>
    go_wp2_with fail
    go_roundg g
    case measure=>omega
    case rel=>exact⟨i+1,_,vn,rfl,by first|rfl|exact congrArg (Value.int .i64) DT.out,by have:=hig.out;unfold Hid;omega,H10,N10,K10,G10,yH⟩
  have ti: ¬(i:Int)<(n:Int):=by omega
  have hie:i=n:=by have:=hig.out;omega
  subst hie
  have hik:i<ks.length:=by have:=HN.out;omega
  obtain⟨p,hpe⟩: ∃p,ks[i]=p:=⟨_,rfl⟩
  have hp:p∈ks:=by rw[<-hpe];exact List.getElem_mem hik
  have hks:ks=ks.take i++ [p]:=by
   have h1:=List.take_succ_eq_append_getElem hik
   rw[hpe,List.take_of_length_le (by have:=HN.out;omega)]at h1
   exact h1
  obtain⟨T,hT⟩: ∃T,ks.take i=T:=⟨_,rfl⟩
  have zn:T.take i=T:=by rw[<-hT,List.take_take,Nat.min_self]
  have yI:T.length=i:=by rw[<-hT,List.length_take];omega
  have sG: ∀q,q∈T->q∈ks:=fun q hq=>by rw[<-hT]at hq;exact List.mem_of_mem_take hq
  rw[hT,zn]at IW NN
  rw[hT]at hks
  have hlt:=IW.out.box.lt
  obtain⟨g1,o1,rfl,C1⟩:=(KK.out.kids (Nat.le_of_lt hlt)).at_ (Nat.lt_of_le_of_lt (Nat.zero_le _) hik)
  obtain⟨hr1,q1⟩:=KK.out.kid hik
  have E1:=hid (C1 i hr1)
  have Q1:=hid q1
  obtain⟨rk,Hy⟩: ∃rk,Ag[i]'hr1=rk:=⟨_,rfl⟩
  rw[Hy]at E1 Q1
  rw[hpe]at Q1
  have UT:(pre T L.length 0).length=Cu T:=Hz HS.out 0 _ _ sG
  have hsum:sizes ks=sizes T+size p:=by rw[hks,Cj.DN];simp only[sizes,Nat.add_zero]
  obtain⟨N,hN⟩: ∃N,L.length+Cu T=N:=⟨_,rfl⟩
  have zo:N+size p=E:=by rw[<-hN,<-HE.out,hsum];unfold Cu;omega
  have HC:Hid (∀(w:World) (v:Value),Lay w b v (L++pre T L.length 0)->DF (fun k=>k<b) w rk p->Calls Tryz.prog 77 #[.pointer (some ⟨b,0,none⟩),.agg (Ak rk)] w (Laid b v w (L++pre T L.length 0++steps p N))):=by
   intro w v h1 h2
   have h3:=HI.out i hik w b v _ rk h1 (by rw[hpe];exact h2) (by rw[List.length_append,UT,hpe];have:=HL.out;omega)
   rw[hpe,List.length_append,UT,hN]at h3
   exact h3
  have VT:Hid ((steps p N).length=size p):=HS.out p hp N
  have wV:=hid yI
  have wW:=hid sG
  have uJ:=hid hN
  have EN:=hid zo
  -- all jumps are set:the whole
  have Nv:Hid (L++(pre T L.length E++steps p N)=L++alts ks L.length E):=by
   unfold Hid
   have h1:=Qr p T L.length E
   rw[hks,h1,hN]
  have hn1:=HA.out.1
  have hn2:=HA.out.2
  rw[HN.out]at hn1
  have a2:=PP.out.c2
  simp only at a2
  have HT2:=hid hlt
  have zq:=hid GG.out.size
  obtain⟨M0,hM0⟩: ∃M0,EX T L.length=M0:=⟨_,rfl⟩
  have Yc:M0.length=i:=by rw[<-hM0,KP,yI]
  rw[hM0]at NN
  obtain⟨Aj,cj,rfl,RZ,Ra⟩:=NN.out.recs.form
  unfold maxLen at Ra
  rw[Yc]at RZ NN ⊢
  have og:=hid (show i<=cj/\cj<=9223372036854775807 from⟨RZ,Ra⟩)
  have yJ:=hid hM0
  have oh:=hid Yc
  clear C1 q1 Hy hlt UT hN hp hpe hik hr1 hM0 hi hks hT zn yI sG hsum zo Yc RZ Ra
  go_wp2_with (first
   |(refine Aq rfl (.tmp 48) rfl rfl (r:=rk) E1.out ?_))
  refine(HC.out _ _ IW.out Q1.out).mono ?_
  rintro e w2 ⟨rfl,v2,h2,g2⟩
  have H2:=hid h2
  have N2:=hid (NN.out.grow IW.out HT.out g2)
  have G2:=hid (GG.out.trans g2)
  clear h2 g2 a2 hn1 hn2
  have RZ:=og.out.1
  have Ra:=og.out.2
  go_wp2_with fail
  have HA2:Hid (L++pre T L.length 0++steps p N=L++(pre (T.take 0) L.length E++pre (T.drop 0) (L.length+Cu (T.take 0)) 0)++steps p N):=by
   unfold Hid
   simp only[List.take_zero,List.drop_zero,pre,List.nil_append,show Cu []=0 from rfl,Nat.add_zero]
  have vJ:Hid (∀x y:Nat,x=y->L++(pre (T.take i) L.length E++pre (T.drop i) (L.length+Cu (T.take i)) 0)++steps p N=L++alts ks L.length E):=by
   intro x y _
   rw[<-Nv.out,List.take_of_length_le (by rw[wV.out];exact Nat.le_refl _),List.drop_of_length_le (by rw[wV.out];exact Nat.le_refl _)]
   simp only[pre,List.append_nil,List.append_assoc]
  clear RZ Ra
  go_loopg [53] i (fun gk s53 wr=> ∃(j:Nat) (vL:Value),s53= .int .i64 j/\Hid (j+gk=i)/\Hid (Lay wr b vL (L++(pre (T.take j) L.length E++pre (T.drop j) (L.length+Cu (T.take j)) 0)++steps p N))/\Hid (D_ w.heap.size wr (.slice Aj i cj) M0)/\Hid (Grow b v vL w wr))
  case atStart=>exact⟨0,v2,rfl,by unfold Hid;omega,by unfold Hid;rw[<-HA2.out];exact H2.out,N2,G2⟩
  case round=>
   obtain⟨j,vL,rfl,TE,S_,N3,G3⟩:=hrel
   have RZ:=og.out.1
   have Ra:=og.out.2
   by_cases hj:j<i
   ·have tj:(j:Int)<(i:Int):=by omega
    obtain⟨X,Z,hX1,hX2,Yd⟩:=oW HS.out wW.out (by rw[wV.out];exact hj) L.length E
    rw[yJ.out]at Yd
    obtain⟨gj,cj2,yK,-,-,-,-⟩:=BL N3.out (by rw[oh.out];omega)
    injection yK with hv1 hv2 hv3
    subst hv1
    have hcell:wr.cell? ⟨gj,j,none⟩=some (.int .i64 ((L.length+X.length:Nat):Int)):=by
     have h1:j<M0.length:=by rw[oh.out];exact hj
     have h2:=GZ Ct M0 j h1 0 (by decide)
     have h3:M0[j]=L.length+X.length:=by rw[List.getElem?_eq_getElem h1]at Yd;exact Option.some.inj Yd
     have h4:=N3.out
     unfold D_ at h4
     rw[oh.out]at h4
     have h5:=h4.cellAt j (by omega)
     rw[Nat.mul_one,Nat.add_zero]at h2
     rw[h5,h2,h3];rfl
    obtain⟨J,hJ⟩: ∃J,(L++X).length=J:=⟨_,rfl⟩
    rw[show L.length+X.length=J by rw[<-hJ,List.length_append]]at hcell
    rw[hX1,List.append_assoc,List.append_assoc,<-List.append_assoc,List.cons_append]at S_
    have hlen:(L++X++Bv.jump 0::(Z++steps p N)).length=E:=by
     have h1:=Hz HS.out 0 T L.length wW.out
     have h2:(pre (T.take j) L.length E++pre (T.drop j) (L.length+Cu (T.take j)) 0).length=Cu T:=by
      rw[List.length_append,Hz HS.out E _ _ (fun q hq=>wW.out q (List.mem_of_mem_take hq)),Hz HS.out 0 _ _ (fun q hq=>wW.out q (List.mem_of_mem_drop hq))]
      have h3:=Cj.DN (T.take j) (T.drop j)
      rw[List.take_append_drop]at h3
      unfold Cu
      rw[h3,List.length_take,List.length_drop,wV.out];omega
     rw[hX1]at h2
     have h4:(L++X++Bv.jump 0::(Z++steps p N)).length=L.length+(X++Bv.jump 0::Z).length+(steps p N).length:=by simp only[List.length_append,List.length_cons];omega
     rw[h4,h2,VT.out,<-EN.out,<-uJ.out]
    obtain⟨gs,cs,vK,hq1,hq2⟩:=S_.out.shape (by rw[hlen];simp only[List.length_append,List.length_cons]at hlen;omega)
    rw[hlen]at vK hq1
    subst vK
    have D3:=hid (below_draws wr 1)
    have jm:=hid (S_.out.below D3.out)
    have HH:Hid (Calls Tryz.prog 133 #[.pointer (some ⟨b,0,none⟩)] (wr.drewN 1) fun e w'=>e= .returned (.int .i64 E)/\w'=wr.drewN 1):=by
     have h1:=ES jm.out
     rw[hlen]at h1
     exact h1
    have S0:Hid ((wr.drewN 1).cell? ⟨b,0,none⟩=some (.slice (some ⟨gs,0,none⟩) E cs)):=jm.out.box.c0
    obtain⟨f2,-,f3⟩:=jm.out.field hJ
    have f3:=f3 (J*4+2)
    unfold Bv.jump at f2
    simp only at f2
    have SET:=jm.out.set2 (E:Int)
    rw[hJ]at SET
    have HX:=hid SET
    have SE:Hid (((wr.drewN 1).setCell ⟨gs,J*4+2,none⟩ (.int .i64 E)).cell? ⟨b,0,none⟩=some (.slice (some ⟨gs,0,none⟩) E cs)):=SET.1.box.c0
    have tq:(J:Int)<(E:Int):=by rw[<-hJ,<-hlen];simp only[List.length_append,List.length_cons];omega
    have vM:Hid (L++(pre (T.take (j+1)) L.length E++pre (T.drop (j+1)) (L.length+Cu (T.take (j+1))) 0)++steps p N=L++X++Bv.jump E::(Z++steps p N)):=by
     unfold Hid
     rw[hX2,List.append_assoc,List.append_assoc,<-List.append_assoc,List.cons_append]
    have Jf:Hid (wrap64 ((j:Int)+1)=((j+1:Nat):Int)):=by unfold Hid wrap64;have:=og.out;omega
    have HJ2:=hid hj
    clear SET hX1 hX2 Yd hJ hlen hv2 hv3 hj
    go_wp2_with fail
    refine wp_region_held_drew (S:=fun w'=>w'.cell? ⟨b,0,none⟩=some (.slice (some ⟨gs,0,none⟩) E cs)) (by kernel_rfl) S0.out (fun hHeld=> ?_)
    refine Take.k 0 ⟨some 57,.move (.tmp 0),_,_,_,none⟩ ?_
    refine Take.k 1 ⟨some 58,.nilCheck (.tmp 57),_,_,_,none⟩ ?_
    refine Take.k 2 ⟨some 59,.fieldAddr 104 (.tmp 58) 0,_,_,_,none⟩ ?_
    refine Take.k 3 ⟨some 60,.load 46 (.tmp 59),_,_,_,none⟩ ?_
    refine Take.k 4 ⟨some 61,.move (.tmp 10),_,_,_,none⟩ ?_
    refine Take.k 5 ⟨some 62,.move (.tmp 0),_,_,_,none⟩ ?_
    refine wpAnyH_ready (rs:= [6]) (by kernel_rfl) (by simp) ?_
    refine AllReadyH.cons (o:=⟨some 63,.call ⟨.value (.func 133), #[.tmp 62], #[99]⟩,_,_,_,none⟩) rfl (fun K hK=> ?_) AllReadyH.nil
    go_simp
    (go_at_call 133;refine HH.out.mono ?_;rintro e x1 ⟨rfl,rfl⟩)
    go_wp2_with fail
    refine hK.out _ _ ?_ (fun hHeld=> ?_)
    ·exact S0.out
    clear hK K
    try simp only[Act.put,Take.a,Take.b,Take.c]
    refine Take.k 7 ⟨some 64,.indexAddr 46 (.tmp 60) (.tmp 61),_,_,_,none⟩ ?_
    refine Take.k 8 ⟨some 65,.fieldAddr 106 (.tmp 64) 2,_,_,_,none⟩ ?_
    refine wpAnyH_ready (rs:= [9]) (by kernel_rfl) (by simp) ?_
    refine AllReadyH.cons (o:=⟨none,.store 3 (.tmp 65) (.tmp 63),_,_,_,none⟩) rfl (fun K hK=> ?_) AllReadyH.nil
    go_simp
    skip
    go_wp2_with fail
    refine hK.out _ _ ?_ (fun hHeld=> ?_)
    ·exact SE.out
    clear hK K
    try simp only[Act.put,Take.a,Take.b,Take.c]
    refine wpAnyH_done (by kernel_rfl) ?_ _
    have H5:Hid (Lay ((wr.drewN 1).setCell ⟨gs,J*4+2,none⟩ (.int .i64 E)) b (.slice (some ⟨gs,0,none⟩) E cs) (L++(pre (T.take (j+1)) L.length E++pre (T.drop (j+1)) (L.length+Cu (T.take (j+1))) 0)++steps p N)):=by unfold Hid;rw[vM.out];exact HX.out.1
    have N5:=hid ((D_.below N3.out D3.out).grow jm.out HT.out HX.out.2)
    have G5:=hid ((G3.out.trans (Grow.of D3.out)).trans HX.out.2)
    clear f2 f3 tq hcell
    cases gk with
    |zero=>exact absurd TE.out (by have:=HJ2.out;omega)
    |succ g=>
     go_wp2_with fail
     go_roundg g
     case measure=>omega
     case rel=>exact⟨j+1,_,by first|rfl|exact congrArg (Value.int .i64) Jf.out,by have:=TE.out;unfold Hid;omega,H5,N5,G5⟩
   have tj: ¬(j:Int)<(i:Int):=by omega
   have vN:j=i:=by have:=TE.out;omega
   subst vN
   have yL:Hid (Lay wr b vL (L++alts ks L.length E)):=by unfold Hid;rw[<-vJ.out 0 0 rfl];exact S_.out
   clear hj
   go_wp2_with fail
   go_end0
   exact⟨rfl,vL,yL.out,G3.out⟩
end EH
namespace EH
open Strs Al Bv
open Cj (Piece size sizes)
open W14 (Raw Ea Ak Co DF FT Ad AZ AO Bi BL AY)
open BU (Beside)
open Kit (below_draws on)
theorem CS.cells {w:World} {b:Nat} {x:AL} (h:CS w b x): ∀j,j<4->w.cell? ⟨b,0+j,none⟩=(CZ x)[j]? :=by
 intro j hj
 rw[Nat.zero_add,cell_of_row w b j _ _ _ h]
 match j,hj with
 |0,_=>rfl
 |1,_=>rfl
 |2,_=>rfl
 |3,_=>rfl
theorem GK {w w':World} {c:Nat} {x:AL} {v v':Value} (h:CS w c x) (hp:Put v v' w w') (hn:v.ownBlock≠some c):CS w' c x:=by
 obtain⟨-,-,-,-,g5⟩:=hp.grown
 exact(g5 c h.lt (fun q=>hn q.symm)).trans h
theorem CS.other {w:World} {c b:Nat} {x:AL} {u:Value} (h:CS w c x) (hn:c≠b):CS (w.setCell ⟨b,0,none⟩ u) c x:=(heap_setCell_other w _ c _ hn).trans h
theorem Xj (a:Int) (h: -1000000<=a/\a<=1000000):wrap64 a=a:=by unfold wrap64;omega
def Src (w:World) (g f:Nat) (S:List AL):Prop:= ∀i (hi:i<S.length),∀j,j<4->w.cell? ⟨g,f*4+i*4+j,none⟩=(CZ S[i])[j]?
theorem bB {w:World} {b g f:Nat} {v:Value} {L S:List AL} (h:Lay w b v L) (hg:v.ownBlock=some g) (hS: ∀i (hi:i<S.length),L[f+i]? =some S[i]):Src w g f S:=by
 intro i hi j hj
 have h2:=hS i hi
 have h3:f+i<L.length:=(List.getElem?_eq_some_iff.1 h2).1
 obtain⟨g',c,rfl,-,-⟩:=h.shape (by omega)
 cases hg
 rw[h.own.cellAt _ (by omega)]
 have h4:=GZ BJ L (f+i) h3 j hj
 rw[List.getElem?_eq_getElem h3]at h2
 rw[show f*4+i*4+j=(f+i)*4+j by omega,h4,Option.some.inj h2]
theorem Src.keep {w w':World} {g f:Nat} {S:List AL} (h:Src w g f S) (hk:w'.heap[g]? =w.heap[g]?):Src w' g f S:=fun i hi j hj=>(AO hk).trans (h i hi j hj)
theorem Src.next {w1 w2:World} {b g f:Nat} {v v':Value} {L S:List AL} (h:Src w1 g f S) (hw:g<w1.heap.size) (hb:g≠b) (hp:Put v v' w1 w2) (hl:Lay (w2.setCell ⟨b,0,none⟩ v') b v' L) (hS: ∀i (hi:i<S.length),L[f+i]? =some S[i]):Src (w2.setCell ⟨b,0,none⟩ v') g f S:=by
 by_cases q:v'.ownBlock=some g
 ·exact bB hl q hS
 exact h.keep ((heap_setCell_other w2 _ g _ hb).trans (hp.kept g hw q))
set_option maxHeartbeats 8000000 in
theorem jo {w:World} {b:Nat} {v:Value} {P S R:List AL} (h:Lay w b v (P++(S++R))) (hS:0<S.length) (hl:(P++(S++R)).length+S.length<=8000) (hx: ∀x,x∈S->(0<=x.x/\x.x<=10000)/\(0<=x.y/\x.y<=10000)):
    Calls Tryz.prog 151 #[.pointer (some ⟨b,0,none⟩),.int .i64 P.length,.int .i64 ((P.length+S.length:Nat):Int)] w (Laid b v w (P++(S++R)++S.map (shift (S.length+R.length)))):=by
 have H:=hid h
 have HX:=hid hx
 have HE:=hid (ES h)
 obtain⟨L,hL⟩: ∃L,P++(S++R)=L:=⟨_,rfl⟩
 obtain⟨f,hf⟩: ∃f,P.length=f:=⟨_,rfl⟩
 obtain⟨n,hn⟩: ∃n,S.length=n:=⟨_,rfl⟩
 obtain⟨d,hd⟩: ∃d,S.length+R.length=d:=⟨_,rfl⟩
 obtain⟨T,hT⟩: ∃T,L.length=T:=⟨_,rfl⟩
 have hTs:T=f+d:=by rw[<-hT,<-hL,<-hf,<-hd];simp only[List.length_append]
 have hdn:n<=d:=by omega
 have sS: ∀i (hi:i<S.length),L[f+i]? =some S[i]:=by
  intro i hi
  rw[<-hL,List.getElem?_append_right (by omega),List.getElem?_append_left (by omega),show f+i-P.length=i by omega,List.getElem?_eq_getElem hi]
 rw[hL]at H HE hl
 rw[hT]at HE hl
 obtain⟨g,c,rfl,hc1,hc2⟩:=H.out.shape (by omega)
 rw[hT]at H hc1 ⊢
 have uf:=hid (H.out.EI g rfl)
 have yM:=hid (bB H.out rfl sS)
 rw[hL,hf,hn]
 have yN:=hid sS
 have HB0:=hid (show T+n<=8000/\S.length=n/\0<n from⟨by omega,hn,by omega⟩)
 obtain⟨e,he⟩: ∃e,f+n=e:=⟨_,rfl⟩
 rw[he]
 have hw1:wrap64 ((T:Int)-(f:Int))=(d:Int):=J9 (by omega) (by omega)
 have hfc: ¬c=f:=by omega
 have hen:e-f=n:=by omega
 have t1:f<=e:=by omega
 have t2:e<=c:=by omega
 have uO:Hid (T=f+d):=hTs
 have HD:Hid (n+R.length=d):=by unfold Hid;omega
 have yO:Hid (L.length=T):=hT
 rw[HD.out]
 clear h hx hL hf hn hT sS hS hl he hd hTs hdn
 go_enter Tryz.func151,Tryz.ntmps151
 go_wp2_with fail
 refine HE.out.mono ?_
 rintro e' w1 ⟨rfl,rfl⟩
 have a0:=H.out.box.c0
 go_wp2_with fail
 clear a0 hw1 hfc hen t1 t2
 go_loopg [21] n (fun gk vO wr=> ∃(i:Nat) (v1:Value),vO= .int .i64 i/\Hid (i+gk=n)/\Hid (Lay wr b v1 (L++(S.take i).map (shift d)))/\Hid (Grow b (.slice (some ⟨g,0,none⟩) T c) v1 w1 wr)/\Hid (Src wr g f S))
 case atStart=>exact⟨0,_,rfl,by unfold Hid;omega,by unfold Hid;simp only[List.take_zero,List.map_nil,List.append_nil];exact H.out,Grow.refl _ _ _,yM⟩
 case round=>
  obtain⟨i,v1,rfl,hig,IW,GG,SS⟩:=hrel
  by_cases hi:i<n
  ·have ti:(i:Int)<(n:Int):=by omega
   have wX:i<S.length:=by rw[HB0.out.2.1];exact hi
   obtain⟨⟨kx,tx,x0,y0⟩,hx⟩: ∃x,S[i]=x:=⟨_,rfl⟩
   have hb:=HX.out S[i] (List.getElem_mem wX)
   have hmap:L++(S.take (i+1)).map (shift d)=(L++(S.take i).map (shift d))++ [shift d ⟨kx,tx,x0,y0⟩]:=by
    rw[List.take_succ_eq_append_getElem wX,hx,List.map_append,List.append_assoc];rfl
   have E1:=hid (SS.out i wX)
   rw[hx]at E1 hb
   simp only at hb
   obtain⟨Lc,wY⟩: ∃Lc,L++(S.take i).map (shift d)=Lc:=⟨_,rfl⟩
   have hlen:Lc.length+1<=1000000:=by
    rw[<-wY,List.length_append,List.length_map,List.length_take,yO.out]
    have:=HB0.out.1
    omega
   have qY: ∀X2:AL,∀k (hk:k<S.length),(Lc++ [X2])[f+k]? =some S[k]:=by
    intro X2 k hk
    have h1:=yN.out k hk
    have h2:f+k<L.length:=(List.getElem?_eq_some_iff.1 h1).1
    rw[<-wY,List.append_assoc,List.getElem?_append_left h2,h1]
   have hsh:shift d ⟨kx,tx,x0,y0⟩=⟨kx,tx,x0+d,if kx=6 then y0+d else y0⟩:=rfl
   rw[hsh]at hmap
   rw[wY]at IW hmap
   have HM:=hid hmap
   have HB:=hid hlen
   have HS2:=hid qY
   have hgw:=uf.out
   obtain⟨xx,VR⟩: ∃xx,x0+(d:Int)=xx:=⟨_,rfl⟩
   obtain⟨yy,yP⟩: ∃yy,y0+(d:Int)=yy:=⟨_,rfl⟩
   have yQ:(T:Int)-(f:Int)=(d:Int):=by have:=uO.out;omega
   have hwx:wrap64 (x0+((T:Int)-(f:Int)))=xx:=by rw[yQ];exact(Xj _ (by have:=HB0.out.1;have:=HD.out;have:=uO.out;omega)).trans VR
   have qP:wrap64 (y0+((T:Int)-(f:Int)))=yy:=by rw[yQ];exact(Xj _ (by have:=HB0.out.1;have:=HD.out;have:=uO.out;omega)).trans yP
   rw[VR,yP]at HM
   have DT:Hid (wrap64 ((i:Int)+1)=((i+1:Nat):Int)):=by unfold Hid wrap64;have:=HB0.out;omega
   have HI2:=hid hi
   have HW:=hid GG.out.size
   clear hmap hx hb hlen qY hsh wY VR yP wX hgw hi yQ
   by_cases hk:kx=6
   ·subst hk
    rw[if_pos rfl]at HM
    go_wp2_with (first
     |(refine DI rfl (.tmp 23) rfl rfl (r:=⟨6,tx,x0,y0⟩) E1.out ?_)
     |(refine Cw rfl rfl ?_;intro w3 b3 e3 p3 l3 z3)
     |(refine Cx (r:=⟨6,tx,x0,y0⟩) rfl (.tmp 8) (.tmp 24) rfl rfl rfl p3 ?_;intro w4 p4 l4 z4;have L4:=hid (AY l3 l4 e3);have P4:=hid p4;have c0:=p4.c0;have c2:=p4.c2;have c3:=p4.c3;have f2:=p4.free 2;have f3:=p4.free 3;have Jv:=hid e3;clear e3 p3 l3 z3 p4 l4 z4;simp only at c0 c2 c3))
    obtain⟨X2,hX2⟩: ∃X2:AL,(⟨6,tx,xx,yy⟩:AL)=X2:=⟨_,rfl⟩
    have i5:CS ((w4.setCell ⟨b3,2,none⟩ (.int .i64 xx)).setCell ⟨b3,3,none⟩ (.int .i64 yy)) b3 X2:=by rw[<-hX2];exact(P4.out.Yw xx).qo yy
    have bb:Beside b3 w4 ((w4.setCell ⟨b3,2,none⟩ (.int .i64 xx)).setCell ⟨b3,3,none⟩ (.int .i64 yy)):=((Beside.refl b3 w4).put 2 _).put 3 _
    rw[hX2]at HM
    clear c0 c2 c3 f2 f3 hX2 hwx qP
    generalize ((w4.setCell ⟨b3,2,none⟩ (.int .i64 xx)).setCell ⟨b3,3,none⟩ (.int .i64 yy))=w5 at i5 bb ⊢
    have D5:=hid (below_draws w5 1)
    have I5:Hid (CS (w5.drewN 1) b3 X2):=i5.below D5.out
    have HB3:Hid (b3≠b):=by unfold Hid;have:=IW.out.box.lt;have:=Jv.out;omega
    have NB:Hid (v1.ownBlock≠some b3):=by intro q;have:=(IW.out.EI b3 q).2;have:=Jv.out;omega
    have H5:=hid (((IW.out.below L4.out).other bb HB3.out NB.out).below D5.out)
    have G5:=hid ((((GG.out.trans (Grow.of L4.out)).beside bb (by have:=Jv.out;have:=HW.out;omega)).trans (Grow.of D5.out)))
    have HG:Hid (g<wr.heap.size/\g≠b3/\g≠b):=by unfold Hid;have:=Jv.out;have:=HW.out;have:=uf.out;exact⟨by omega,by omega,by omega⟩
    have S5:Hid (Src (w5.drewN 1) g f S):=(SS.out.keep (w':=w5.drewN 1) ((bb.block g (Nat.lt_of_lt_of_le HG.out.1 L4.out.size) HG.out.2.1).trans (L4.out.block g HG.out.1)))
    have Z5:Hid (g<(w5.drewN 1).heap.size):=Nat.lt_of_lt_of_le HG.out.1 (Nat.le_trans L4.out.size bb.size)
    have a5:w5.drew.cell? ⟨b,0,none⟩=some v1:=H5.out.box.c0
    clear i5 bb
    refine wp_region_held_drew (S:=fun w'=>CS w' b3 X2) (by kernel_rfl) I5.out (fun hHeld=> ?_)
    refine Take.k 0 ⟨some 38,.move (.tmp 0),_,_,_,none⟩ ?_
    refine Take.k 1 ⟨some 39,.move (.tmp 0),_,_,_,none⟩ ?_
    refine Take.k 2 ⟨some 40,.nilCheck (.tmp 39),_,_,_,none⟩ ?_
    refine Take.k 3 ⟨some 41,.fieldAddr 104 (.tmp 40) 0,_,_,_,none⟩ ?_
    refine Take.k 5 ⟨some 43,.load 106 (.tmp 8),_,_,_,none⟩ ?_ (hy:=Or.inl ⟨by rfl,by(intro w hSw;(try dsimp only at hSw);refine DR (.tmp 8) ?_ ?_ hSw.cells<;>rfl)⟩)
    refine wpAnyH_ready (rs:= [4,6]) (by kernel_rfl) (by simp) ?_
    refine AllReadyH.cons (o:=⟨some 42,.load 46 (.tmp 41),_,_,_,none⟩) rfl (fun K hK=> ?_) (AllReadyH.cons (o:=⟨some 44,.buildSlice 46 1 #[(0,.tmp 43)],_,_,_,none⟩) rfl (fun K hK=> ?_) AllReadyH.nil)
    ·go_simp
     skip
     go_wp2_with fail
     refine hK.out _ _ ?_ (fun hHeld=> ?_)
     ·exact I5.out
     clear hK K
     try simp only[Act.put,Take.a,Take.b,Take.c]
     refine wpAnyH_ready (rs:= [6]) (by kernel_rfl) (by simp) ?_
     refine AllReadyH.cons (o:=⟨some 44,.buildSlice 46 1 #[(0,.tmp 43)],_,_,_,none⟩) rfl (fun K hK=> ?_) AllReadyH.nil
     rw[if_pos (by rfl)]
     (refine FJ (r:=X2) (.tmp 43) rfl rfl ?_;intro w6 b6 e6 p6 l6 z6 o6;have P6:=hid p6;have L6:=hid l6;clear e6 p6 l6 z6 o6;have a6:=(H5.out.below L6.out).box.c0)
     refine hK.out _ _ ?_ (fun hHeld=> ?_)
     ·exact I5.out.below L6.out
     clear hK K
     try simp only[Act.put,Take.a,Take.b,Take.c]
     refine wpAnyH_ready (rs:= [7]) (by kernel_rfl) (by simp) ?_
     refine AllReadyH.cons (o:=⟨some 45,.call ⟨.builtin .append, #[.tmp 42,.tmp 44], #[46,46]⟩,_,_,_,none⟩) rfl (fun K hK=> ?_) AllReadyH.nil
     rw[if_pos (by rfl)]
     (refine El (.tmp 42) (.tmp 44) rfl rfl rfl (H5.out.below L6.out).own P6.out (by simp only[List.length_cons,List.length_nil];have:=HB.out;omega) (Nat.le_trans H5.out.box.lt L6.out.size) ?_;intro v7 w7 o7 p7;obtain⟨g7,c7,rfl,-,-,-,-⟩:=BL o7 (by simp);have R7:=hid (H5.out.more L6.out o7 p7);have O7:=hid p7;obtain⟨q7,VK⟩: ∃q7,(Lc++ [X2]).length=q7:=⟨_,rfl⟩;rw[VK]at R7 O7 ⊢;clear VK o7 p7;have f7:=R7.out.1.free 0;have d7:=R7.out.1.c0)
     refine hK.out _ _ ?_ (fun hHeld=> ?_)
     ·exact GK (I5.out.below L6.out) O7.out NB.out
     clear hK K
     try simp only[Act.put,Take.a,Take.b,Take.c]
     refine Take.k 8 ⟨some 46,.nilCheck (.tmp 38),_,_,_,none⟩ ?_
     refine Take.k 9 ⟨some 47,.fieldAddr 104 (.tmp 46) 0,_,_,_,none⟩ ?_
     refine wpAnyH_ready (rs:= [10]) (by kernel_rfl) (by simp) ?_
     refine AllReadyH.cons (o:=⟨none,.store 46 (.tmp 47) (.tmp 45),_,_,_,none⟩) rfl (fun K hK=> ?_) AllReadyH.nil
     go_simp
     skip
     go_wp2_with fail
     refine hK.out _ _ ?_ (fun hHeld=> ?_)
     ·exact(GK (I5.out.below L6.out) O7.out NB.out).other HB3.out
     clear hK K
     try simp only[Act.put,Take.a,Take.b,Take.c]
     refine wpAnyH_done (by kernel_rfl) ?_ _
     have H8:Hid (Lay (w7.setCell ⟨b,0,none⟩ (.slice (some ⟨g7,0,none⟩) q7 c7)) b (.slice (some ⟨g7,0,none⟩) q7 c7) (L++(S.take (i+1)).map (shift d))):=by unfold Hid;rw[HM.out];exact R7.out.2.1
     have G8:=hid (G5.out.trans R7.out.2.2)
     have S8:=hid ((S5.out.keep (w':=w6) (L6.out.block g Z5.out)).next (Nat.lt_of_lt_of_le Z5.out L6.out.size) HG.out.2.2 O7.out R7.out.2.1 (HS2.out X2))
     clear f7 d7 a6
     cases gk with
     |zero=>exact absurd hig.out (by have:=HI2.out;omega)
     |succ gk=>
      go_wp2_with fail
      go_roundg gk
      case measure=>omega
      case rel=>exact⟨i+1,_,by first|rfl|exact congrArg (Value.int .i64) DT.out,by have:=hig.out;unfold Hid;omega,H8,G8,S8⟩
    rw[if_pos (by rfl)]
    (refine FJ (r:=X2) (.tmp 43) rfl rfl ?_;intro w6 b6 e6 p6 l6 z6 o6;have P6:=hid p6;have L6:=hid l6;clear e6 p6 l6 z6 o6;have a6:=(H5.out.below L6.out).box.c0)
    refine hK.out _ _ ?_ (fun hHeld=> ?_)
    ·exact I5.out.below L6.out
    clear hK K
    try simp only[Act.put,Take.a,Take.b,Take.c]
    refine wpAnyH_ready (rs:= [4]) (by kernel_rfl) (by simp) ?_
    refine AllReadyH.cons (o:=⟨some 42,.load 46 (.tmp 41),_,_,_,none⟩) rfl (fun K hK=> ?_) AllReadyH.nil
    go_simp
    skip
    go_wp2_with fail
    refine hK.out _ _ ?_ (fun hHeld=> ?_)
    ·exact I5.out.below L6.out
    clear hK K
    try simp only[Act.put,Take.a,Take.b,Take.c]
    refine wpAnyH_ready (rs:= [7]) (by kernel_rfl) (by simp) ?_
    refine AllReadyH.cons (o:=⟨some 45,.call ⟨.builtin .append, #[.tmp 42,.tmp 44], #[46,46]⟩,_,_,_,none⟩) rfl (fun K hK=> ?_) AllReadyH.nil
    rw[if_pos (by rfl)]
    (refine El (.tmp 42) (.tmp 44) rfl rfl rfl (H5.out.below L6.out).own P6.out (by simp only[List.length_cons,List.length_nil];have:=HB.out;omega) (Nat.le_trans H5.out.box.lt L6.out.size) ?_;intro v7 w7 o7 p7;obtain⟨g7,c7,rfl,-,-,-,-⟩:=BL o7 (by simp);have R7:=hid (H5.out.more L6.out o7 p7);have O7:=hid p7;obtain⟨q7,VK⟩: ∃q7,(Lc++ [X2]).length=q7:=⟨_,rfl⟩;rw[VK]at R7 O7 ⊢;clear VK o7 p7;have f7:=R7.out.1.free 0;have d7:=R7.out.1.c0)
    refine hK.out _ _ ?_ (fun hHeld=> ?_)
    ·exact GK (I5.out.below L6.out) O7.out NB.out
    clear hK K
    try simp only[Act.put,Take.a,Take.b,Take.c]
    refine Take.k 8 ⟨some 46,.nilCheck (.tmp 38),_,_,_,none⟩ ?_
    refine Take.k 9 ⟨some 47,.fieldAddr 104 (.tmp 46) 0,_,_,_,none⟩ ?_
    refine wpAnyH_ready (rs:= [10]) (by kernel_rfl) (by simp) ?_
    refine AllReadyH.cons (o:=⟨none,.store 46 (.tmp 47) (.tmp 45),_,_,_,none⟩) rfl (fun K hK=> ?_) AllReadyH.nil
    go_simp
    skip
    go_wp2_with fail
    refine hK.out _ _ ?_ (fun hHeld=> ?_)
    ·exact(GK (I5.out.below L6.out) O7.out NB.out).other HB3.out
    clear hK K
    try simp only[Act.put,Take.a,Take.b,Take.c]
    refine wpAnyH_done (by kernel_rfl) ?_ _
    have H8:Hid (Lay (w7.setCell ⟨b,0,none⟩ (.slice (some ⟨g7,0,none⟩) q7 c7)) b (.slice (some ⟨g7,0,none⟩) q7 c7) (L++(S.take (i+1)).map (shift d))):=by unfold Hid;rw[HM.out];exact R7.out.2.1
    have G8:=hid (G5.out.trans R7.out.2.2)
    have S8:=hid ((S5.out.keep (w':=w6) (L6.out.block g Z5.out)).next (Nat.lt_of_lt_of_le Z5.out L6.out.size) HG.out.2.2 O7.out R7.out.2.1 (HS2.out X2))
    clear f7 d7 a6
    cases gk with
    |zero=>exact absurd hig.out (by have:=HI2.out;omega)
    |succ gk=>
     go_wp2_with fail
     go_roundg gk
     case measure=>omega
     case rel=>exact⟨i+1,_,by first|rfl|exact congrArg (Value.int .i64) DT.out,by have:=hig.out;unfold Hid;omega,H8,G8,S8⟩
   have tk:(kx==6)=false:=by simpa using hk
   rw[if_neg hk]at HM
   go_wp2_with (first
    |(refine DI rfl (.tmp 23) rfl rfl (r:=⟨kx,tx,x0,y0⟩) E1.out ?_)
    |(refine Cw rfl rfl ?_;intro w3 b3 e3 p3 l3 z3)
    |(refine Cx (r:=⟨kx,tx,x0,y0⟩) rfl (.tmp 8) (.tmp 24) rfl rfl rfl p3 ?_;intro w4 p4 l4 z4;have L4:=hid (AY l3 l4 e3);have P4:=hid p4;have c0:=p4.c0;have c2:=p4.c2;have c3:=p4.c3;have f2:=p4.free 2;have f3:=p4.free 3;have Jv:=hid e3;clear e3 p3 l3 z3 p4 l4 z4;simp only at c0 c2 c3))
   obtain⟨X2,hX2⟩: ∃X2:AL,(⟨kx,tx,xx,y0⟩:AL)=X2:=⟨_,rfl⟩
   have i5:CS (w4.setCell ⟨b3,2,none⟩ (.int .i64 xx)) b3 X2:=by rw[<-hX2];exact P4.out.Yw xx
   have bb:Beside b3 w4 (w4.setCell ⟨b3,2,none⟩ (.int .i64 xx)):=(Beside.refl b3 w4).put 2 _
   rw[hX2]at HM
   clear c0 c2 c3 f2 f3 hX2 hwx qP
   generalize (w4.setCell ⟨b3,2,none⟩ (.int .i64 xx))=w5 at i5 bb ⊢
   have D5:=hid (below_draws w5 1)
   have I5:Hid (CS (w5.drewN 1) b3 X2):=i5.below D5.out
   have HB3:Hid (b3≠b):=by unfold Hid;have:=IW.out.box.lt;have:=Jv.out;omega
   have NB:Hid (v1.ownBlock≠some b3):=by intro q;have:=(IW.out.EI b3 q).2;have:=Jv.out;omega
   have H5:=hid (((IW.out.below L4.out).other bb HB3.out NB.out).below D5.out)
   have G5:=hid ((((GG.out.trans (Grow.of L4.out)).beside bb (by have:=Jv.out;have:=HW.out;omega)).trans (Grow.of D5.out)))
   have HG:Hid (g<wr.heap.size/\g≠b3/\g≠b):=by unfold Hid;have:=Jv.out;have:=HW.out;have:=uf.out;exact⟨by omega,by omega,by omega⟩
   have S5:Hid (Src (w5.drewN 1) g f S):=(SS.out.keep (w':=w5.drewN 1) ((bb.block g (Nat.lt_of_lt_of_le HG.out.1 L4.out.size) HG.out.2.1).trans (L4.out.block g HG.out.1)))
   have Z5:Hid (g<(w5.drewN 1).heap.size):=Nat.lt_of_lt_of_le HG.out.1 (Nat.le_trans L4.out.size bb.size)
   have a5:w5.drew.cell? ⟨b,0,none⟩=some v1:=H5.out.box.c0
   clear i5 bb
   refine wp_region_held_drew (S:=fun w'=>CS w' b3 X2) (by kernel_rfl) I5.out (fun hHeld=> ?_)
   refine Take.k 0 ⟨some 38,.move (.tmp 0),_,_,_,none⟩ ?_
   refine Take.k 1 ⟨some 39,.move (.tmp 0),_,_,_,none⟩ ?_
   refine Take.k 2 ⟨some 40,.nilCheck (.tmp 39),_,_,_,none⟩ ?_
   refine Take.k 3 ⟨some 41,.fieldAddr 104 (.tmp 40) 0,_,_,_,none⟩ ?_
   refine Take.k 5 ⟨some 43,.load 106 (.tmp 8),_,_,_,none⟩ ?_ (hy:=Or.inl ⟨by rfl,by(intro w hSw;(try dsimp only at hSw);refine DR (.tmp 8) ?_ ?_ hSw.cells<;>rfl)⟩)
   refine wpAnyH_ready (rs:= [4,6]) (by kernel_rfl) (by simp) ?_
   refine AllReadyH.cons (o:=⟨some 42,.load 46 (.tmp 41),_,_,_,none⟩) rfl (fun K hK=> ?_) (AllReadyH.cons (o:=⟨some 44,.buildSlice 46 1 #[(0,.tmp 43)],_,_,_,none⟩) rfl (fun K hK=> ?_) AllReadyH.nil)
   ·go_simp
    skip
    go_wp2_with fail
    refine hK.out _ _ ?_ (fun hHeld=> ?_)
    ·exact I5.out
    clear hK K
    try simp only[Act.put,Take.a,Take.b,Take.c]
    refine wpAnyH_ready (rs:= [6]) (by kernel_rfl) (by simp) ?_
    refine AllReadyH.cons (o:=⟨some 44,.buildSlice 46 1 #[(0,.tmp 43)],_,_,_,none⟩) rfl (fun K hK=> ?_) AllReadyH.nil
    rw[if_pos (by rfl)]
    (refine FJ (r:=X2) (.tmp 43) rfl rfl ?_;intro w6 b6 e6 p6 l6 z6 o6;have P6:=hid p6;have L6:=hid l6;clear e6 p6 l6 z6 o6;have a6:=(H5.out.below L6.out).box.c0)
    refine hK.out _ _ ?_ (fun hHeld=> ?_)
    ·exact I5.out.below L6.out
    clear hK K
    try simp only[Act.put,Take.a,Take.b,Take.c]
    refine wpAnyH_ready (rs:= [7]) (by kernel_rfl) (by simp) ?_
    refine AllReadyH.cons (o:=⟨some 45,.call ⟨.builtin .append, #[.tmp 42,.tmp 44], #[46,46]⟩,_,_,_,none⟩) rfl (fun K hK=> ?_) AllReadyH.nil
    rw[if_pos (by rfl)]
    (refine El (.tmp 42) (.tmp 44) rfl rfl rfl (H5.out.below L6.out).own P6.out (by simp only[List.length_cons,List.length_nil];have:=HB.out;omega) (Nat.le_trans H5.out.box.lt L6.out.size) ?_;intro v7 w7 o7 p7;obtain⟨g7,c7,rfl,-,-,-,-⟩:=BL o7 (by simp);have R7:=hid (H5.out.more L6.out o7 p7);have O7:=hid p7;obtain⟨q7,VK⟩: ∃q7,(Lc++ [X2]).length=q7:=⟨_,rfl⟩;rw[VK]at R7 O7 ⊢;clear VK o7 p7;have f7:=R7.out.1.free 0;have d7:=R7.out.1.c0)
    refine hK.out _ _ ?_ (fun hHeld=> ?_)
    ·exact GK (I5.out.below L6.out) O7.out NB.out
    clear hK K
    try simp only[Act.put,Take.a,Take.b,Take.c]
    refine Take.k 8 ⟨some 46,.nilCheck (.tmp 38),_,_,_,none⟩ ?_
    refine Take.k 9 ⟨some 47,.fieldAddr 104 (.tmp 46) 0,_,_,_,none⟩ ?_
    refine wpAnyH_ready (rs:= [10]) (by kernel_rfl) (by simp) ?_
    refine AllReadyH.cons (o:=⟨none,.store 46 (.tmp 47) (.tmp 45),_,_,_,none⟩) rfl (fun K hK=> ?_) AllReadyH.nil
    go_simp
    skip
    go_wp2_with fail
    refine hK.out _ _ ?_ (fun hHeld=> ?_)
    ·exact(GK (I5.out.below L6.out) O7.out NB.out).other HB3.out
    clear hK K
    try simp only[Act.put,Take.a,Take.b,Take.c]
    refine wpAnyH_done (by kernel_rfl) ?_ _
    have H8:Hid (Lay (w7.setCell ⟨b,0,none⟩ (.slice (some ⟨g7,0,none⟩) q7 c7)) b (.slice (some ⟨g7,0,none⟩) q7 c7) (L++(S.take (i+1)).map (shift d))):=by unfold Hid;rw[HM.out];exact R7.out.2.1
    have G8:=hid (G5.out.trans R7.out.2.2)
    have S8:=hid ((S5.out.keep (w':=w6) (L6.out.block g Z5.out)).next (Nat.lt_of_lt_of_le Z5.out L6.out.size) HG.out.2.2 O7.out R7.out.2.1 (HS2.out X2))
    clear f7 d7 a6
    cases gk with
    |zero=>exact absurd hig.out (by have:=HI2.out;omega)
    |succ gk=>
     go_wp2_with fail
     go_roundg gk
     case measure=>omega
     case rel=>exact⟨i+1,_,by first|rfl|exact congrArg (Value.int .i64) DT.out,by have:=hig.out;unfold Hid;omega,H8,G8,S8⟩
   rw[if_pos (by rfl)]
   (refine FJ (r:=X2) (.tmp 43) rfl rfl ?_;intro w6 b6 e6 p6 l6 z6 o6;have P6:=hid p6;have L6:=hid l6;clear e6 p6 l6 z6 o6;have a6:=(H5.out.below L6.out).box.c0)
   refine hK.out _ _ ?_ (fun hHeld=> ?_)
   ·exact I5.out.below L6.out
   clear hK K
   try simp only[Act.put,Take.a,Take.b,Take.c]
   refine wpAnyH_ready (rs:= [4]) (by kernel_rfl) (by simp) ?_
   refine AllReadyH.cons (o:=⟨some 42,.load 46 (.tmp 41),_,_,_,none⟩) rfl (fun K hK=> ?_) AllReadyH.nil
   go_simp
   skip
   go_wp2_with fail
   refine hK.out _ _ ?_ (fun hHeld=> ?_)
   ·exact I5.out.below L6.out
   clear hK K
   try simp only[Act.put,Take.a,Take.b,Take.c]
   refine wpAnyH_ready (rs:= [7]) (by kernel_rfl) (by simp) ?_
   refine AllReadyH.cons (o:=⟨some 45,.call ⟨.builtin .append, #[.tmp 42,.tmp 44], #[46,46]⟩,_,_,_,none⟩) rfl (fun K hK=> ?_) AllReadyH.nil
   rw[if_pos (by rfl)]
   (refine El (.tmp 42) (.tmp 44) rfl rfl rfl (H5.out.below L6.out).own P6.out (by simp only[List.length_cons,List.length_nil];have:=HB.out;omega) (Nat.le_trans H5.out.box.lt L6.out.size) ?_;intro v7 w7 o7 p7;obtain⟨g7,c7,rfl,-,-,-,-⟩:=BL o7 (by simp);have R7:=hid (H5.out.more L6.out o7 p7);have O7:=hid p7;obtain⟨q7,VK⟩: ∃q7,(Lc++ [X2]).length=q7:=⟨_,rfl⟩;rw[VK]at R7 O7 ⊢;clear VK o7 p7;have f7:=R7.out.1.free 0;have d7:=R7.out.1.c0)
   refine hK.out _ _ ?_ (fun hHeld=> ?_)
   ·exact GK (I5.out.below L6.out) O7.out NB.out
   clear hK K
   try simp only[Act.put,Take.a,Take.b,Take.c]
   refine Take.k 8 ⟨some 46,.nilCheck (.tmp 38),_,_,_,none⟩ ?_
   refine Take.k 9 ⟨some 47,.fieldAddr 104 (.tmp 46) 0,_,_,_,none⟩ ?_
   refine wpAnyH_ready (rs:= [10]) (by kernel_rfl) (by simp) ?_
   refine AllReadyH.cons (o:=⟨none,.store 46 (.tmp 47) (.tmp 45),_,_,_,none⟩) rfl (fun K hK=> ?_) AllReadyH.nil
   go_simp
   skip
   go_wp2_with fail
   refine hK.out _ _ ?_ (fun hHeld=> ?_)
   ·exact(GK (I5.out.below L6.out) O7.out NB.out).other HB3.out
   clear hK K
   try simp only[Act.put,Take.a,Take.b,Take.c]
   refine wpAnyH_done (by kernel_rfl) ?_ _
   have H8:Hid (Lay (w7.setCell ⟨b,0,none⟩ (.slice (some ⟨g7,0,none⟩) q7 c7)) b (.slice (some ⟨g7,0,none⟩) q7 c7) (L++(S.take (i+1)).map (shift d))):=by unfold Hid;rw[HM.out];exact R7.out.2.1
   have G8:=hid (G5.out.trans R7.out.2.2)
   have S8:=hid ((S5.out.keep (w':=w6) (L6.out.block g Z5.out)).next (Nat.lt_of_lt_of_le Z5.out L6.out.size) HG.out.2.2 O7.out R7.out.2.1 (HS2.out X2))
   clear f7 d7 a6
   cases gk with
   |zero=>exact absurd hig.out (by have:=HI2.out;omega)
   |succ gk=>
    go_wp2_with fail
    go_roundg gk
    case measure=>omega
    case rel=>exact⟨i+1,_,by first|rfl|exact congrArg (Value.int .i64) DT.out,by have:=hig.out;unfold Hid;omega,H8,G8,S8⟩
  have ti: ¬(i:Int)<(n:Int):=by omega
  have hie:i=n:=by have:=hig.out;omega
  have HL2:Hid (Lay wr b v1 (L++S.map (shift d))):=by
   have:=IW.out
   rw[hie,<-HB0.out.2.1,List.take_length]at this
   exact this
  clear hie hi
  go_wp2_with fail
  go_end0
  exact⟨rfl,v1,HL2.out,GG.out⟩
end EH
namespace EH
open Strs Al Bv
open Cj (Piece size sizes)
open W14 (Raw Ea Ak Co DF FT Ad AZ AO Bi BL AV AU AY)
open BU (Beside)
open Kit (below_draws on)
theorem dh {w:World} {b f:Nat} {v:Value} {L:List AL} (h:Lay w b v L) (hf:f<=L.length):
    Calls Tryz.prog 151 #[.pointer (some ⟨b,0,none⟩),.int .i64 f,.int .i64 f] w (Laid b v w L):=by
 have H:=hid h
 have HE:=hid (ES h)
 obtain⟨A,c,rfl,hc1,hc2⟩:=h.form
 have a0:=h.box.c0
 obtain⟨T,hT⟩: ∃T,L.length=T:=⟨_,rfl⟩
 rw[hT]at HE hc1 a0 hf
 unfold maxLen at hc2
 have t1:f<=c:=by omega
 clear h hT
 by_cases q:c=f
 ·go_enter Tryz.func151,Tryz.ntmps151
  go_wp2_with fail
  refine HE.out.mono ?_
  rintro e' w1 ⟨rfl,rfl⟩
  go_wp2_with fail
  go_loopg [21] 1 (fun gk vO wr=>vO= .int .i64 0/\wr=w1)
  case atStart=>exact⟨rfl,rfl⟩
  case round=>
   obtain⟨rfl,rfl⟩:=hrel
   go_wp2_with fail
   go_end0
   exact⟨rfl,_,H.out,Grow.refl _ _ _⟩
 go_enter Tryz.func151,Tryz.ntmps151
 go_wp2_with fail
 refine HE.out.mono ?_
 rintro e' w1 ⟨rfl,rfl⟩
 go_wp2_with fail
 go_loopg [21] 1 (fun gk vO wr=>vO= .int .i64 0/\wr=w1)
 case atStart=>exact⟨rfl,rfl⟩
 case round=>
  obtain⟨rfl,rfl⟩:=hrel
  go_wp2_with fail
  go_end0
  exact⟨rfl,_,H.out,Grow.refl _ _ _⟩
structure DZ (w:World) (b c2 c3 c5 c6 c7:Nat) (r:Raw) (laid:Bool) (f e:Nat):Prop where
 b2:w.heap[c2]? =some (.cells #[.pointer (some ⟨b,0,none⟩)] 99 (0,0))
 b3:Ad w c3 r
 b5:w.heap[c5]? =some (.cells #[.int .i64 f] 3 (0,0))
 b6:w.heap[c6]? =some (.cells #[.int .i64 e] 3 (0,0))
 b7:w.heap[c7]? =some (.cells #[.bool laid] 4 (0,0))
abbrev yR (c2 c3 c5 c6 c7:Nat):Value:= .func (.func 150) #[] #[.pointer (some ⟨c7,0,none⟩),.pointer (some ⟨c2,0,none⟩),.pointer (some ⟨c5,0,none⟩),.pointer (some ⟨c6,0,none⟩),.pointer (some ⟨c3,0,none⟩)]
def Es (b c2 c3 c5 c6 c7:Nat):Prop:=b<c2/\c2<c3/\c3<c5/\c5<c6/\c6<c7
section
variable {w w' w'':World} {b c2 c3 c5 c6 c7 f e:Nat} {r:Raw} {laid:Bool} {v v' v'':Value} {L:List AL}
structure IQ (b c5 c6 c7:Nat) (v v':Value) (w w':World):Prop where
 os:w'.os=w.os
 tape:w'.tape=w.tape
 output:w'.output=w.output
 size:w.heap.size<=w'.heap.size
 block: ∀k,k<w.heap.size->k≠b->v.ownBlock≠some k->k≠c5->k≠c6->k≠c7->w'.heap[k]? =w.heap[k]?
 own: ∀k,v'.ownBlock=some k->v.ownBlock=some k\/w.heap.size<=k
theorem IQ.of (h:Grow b v v' w w'):IQ b c5 c6 c7 v v' w w':=⟨h.os,h.tape,h.output,h.size,fun k h1 h2 h3 _ _ _=>h.block k h1 h2 h3,h.own⟩
theorem IQ.trans (h:IQ b c5 c6 c7 v v' w w') (k:IQ b c5 c6 c7 v' v'' w' w''):IQ b c5 c6 c7 v v'' w w'':=
 ⟨k.os.trans h.os,k.tape.trans h.tape,k.output.trans h.output,Nat.le_trans h.size k.size,fun i hi e1 e2 e3 e4 e5=>(k.block i (Nat.lt_of_lt_of_le hi h.size) e1 (fun q=>by
  rcases h.own i q with q2|q2
  ·exact e2 q2
  ·omega) e3 e4 e5).trans (h.block i hi e1 e2 e3 e4 e5),fun i hi=>by
  rcases k.own i hi with q|q
  ·exact h.own i q
  exact Or.inr (Nat.le_trans h.size q)⟩
theorem IQ.put (w:World) (v:Value) (b:Nat) {c5 c6 c7 c:Nat} (hc:c=c5\/c=c6\/c=c7) (u:Value):IQ b c5 c6 c7 v v w (w.setCell ⟨c,0,none⟩ u):=
 ⟨rfl,rfl,rfl,by rw[World.size_setCell];exact Nat.le_refl _,fun k _ _ _ e3 e4 e5=>heap_setCell_other w _ k _ (show k≠c by omega),fun k hk=>Or.inl hk⟩
theorem Grow.turn {w0:World} (h:Grow b v v' w0 w) (k:IQ b c5 c6 c7 v' v'' w w') (h5:w0.heap.size<=c5) (h6:w0.heap.size<=c6) (h7:w0.heap.size<=c7):Grow b v v'' w0 w':=
 ⟨k.os.trans h.os,k.tape.trans h.tape,k.output.trans h.output,Nat.le_trans h.size k.size,fun i hi e1 e2=>(k.block i (Nat.lt_of_lt_of_le hi h.size) e1 (fun q=>by
  rcases h.own i q with q2|q2
  ·exact e2 q2
  ·omega) (by omega) (by omega) (by omega)).trans (h.block i hi e1 e2),fun i hi=>by
  rcases k.own i hi with q|q
  ·exact h.own i q
  exact Or.inr (Nat.le_trans h.size q)⟩
theorem Fq {c:Nat} {cs:Array Value} {t:TypeId} {fr:Nat×Nat} (hl:Lay w b v L) (h:w.heap[c]? =some (.cells cs t fr)) (ht:t≠106):v.ownBlock≠some c:=by
 intro q
 obtain⟨cur,h1⟩:=ED hl.own q
 rw[h]at h1
 injection h1 with h1
 injection h1 with _ h1
 exact ht h1
theorem lt_of_block {c:Nat} {o:Obj} (h:w.heap[c]? =some o):c<w.heap.size:=(Array.getElem?_eq_some_iff.1 h).1
theorem DZ.keep (h:DZ w b c2 c3 c5 c6 c7 r laid f e) (hk: ∀c o,w.heap[c]? =some o->(c=c2\/c=c3\/c=c5\/c=c6\/c=c7)->w'.heap[c]? =w.heap[c]?):DZ w' b c2 c3 c5 c6 c7 r laid f e:=
 ⟨(hk c2 _ h.b2 (by simp)).trans h.b2,(hk c3 _ h.b3 (by simp)).trans h.b3,(hk c5 _ h.b5 (by simp)).trans h.b5,(hk c6 _ h.b6 (by simp)).trans h.b6,(hk c7 _ h.b7 (by simp)).trans h.b7⟩
theorem DZ.below (h:DZ w b c2 c3 c5 c6 c7 r laid f e) (hb:Below w.heap.size w w'):DZ w' b c2 c3 c5 c6 c7 r laid f e:=h.keep fun c _ ho _=>hb.block c (lt_of_block ho)
theorem DZ.Ms (h:DZ w b c2 c3 c5 c6 c7 r laid f e) (hl:Lay w b v L) {c:Nat} (hc:c=c2\/c=c3\/c=c5\/c=c6\/c=c7):v.ownBlock≠some c:=by
 rcases hc with rfl|rfl|rfl|rfl|rfl
 ·exact Fq hl h.b2 (by decide)
 ·exact Fq hl h.b3 (by decide)
 ·exact Fq hl h.b5 (by decide)
 ·exact Fq hl h.b6 (by decide)
 exact Fq hl h.b7 (by decide)
theorem DZ.grow (h:DZ w b c2 c3 c5 c6 c7 r laid f e) (h5:Es b c2 c3 c5 c6 c7) (hl:Lay w b v L) (hg:Grow b v v' w w'):DZ w' b c2 c3 c5 c6 c7 r laid f e:=
 h.keep fun c _ ho hc=>hg.block c (lt_of_block ho) (by unfold Es at h5;omega) (h.Ms hl hc)
theorem DZ.nums {base:Nat} {M:List Nat} {u u':Value} (h:DZ w b c2 c3 c5 c6 c7 r laid f e) (h5:Es b c2 c3 c5 c6 c7) (hn:D_ base w u M) (hb:c7<base) (hp:Put u u' w w'):DZ w' b c2 c3 c5 c6 c7 r laid f e:=by
 obtain⟨-,-,-,-,g5⟩:=hp.grown
 exact h.keep fun c _ ho hc=>g5 c (lt_of_block ho) (fun q=>by have:=(hn.lt c q.symm).1;unfold Es at h5;omega)
theorem D_.turn {base:Nat} {M:List Nat} {u:Value} (hn:D_ base w u M) (h5:Es b c2 c3 c5 c6 c7) (hb:c7<base) (hl:Lay w b v L) (ht:IQ b c5 c6 c7 v v' w w'):D_ base w' u M:=
 CE hn fun k hk=>by
  have h1:=(hn.lt k hk).1
  unfold Es at h5
  exact ht.block k (hn.lt k hk).2 (by omega) (hn.apart hl hk) (by omega) (by omega) (by omega)
theorem IQ.piece (h:IQ b c5 c6 c7 v v' w w') (h5:Es b c2 c3 c5 c6 c7) (hl:Lay w b v L) {r:Raw} {p:Piece} (hp:DF (fun k=>k<b) w r p):DF (fun k=>k<b) w' r p:=
 hp.keep (fun _ q=>q) fun a (q:a.block<b)=>by
  unfold Es at h5
  exact AO (h.block _ (Nat.lt_trans q hl.box.lt) (by omega) (fun q2=>by have:=(hl.EI _ q2).1;omega) (by omega) (by omega) (by omega))
theorem IQ.boxed (h:IQ b c5 c6 c7 v v' w w') (hl:Lay w b v L) {c:Nat} {r:Raw} (hp:Ad w c r) (h1:c≠b) (h2:c≠c5/\c≠c6/\c≠c7):Ad w' c r:=
 (h.block c hp.lt h1 (Fq hl hp (by decide)) h2.1 h2.2.1 h2.2.2).trans hp
end
theorem UU {w:World} {b:Nat} {r:Raw} (hb:b<w.heap.size):Calls Tryz.prog 134 #[.pointer (some ⟨b,0,none⟩),.agg (Ak r)] w (fun e w'=> ∃c2 c3 c5 c6 c7,e= .returned (yR c2 c3 c5 c6 c7)/\w.heap.size<=c2/\c7<w'.heap.size/\Es b c2 c3 c5 c6 c7/\DZ w' b c2 c3 c5 c6 c7 r false 0 0/\Below w.heap.size w w'):=by
 have HB:=hid hb
 clear hb
 go_enter Tryz.func134,Tryz.ntmps134
 go_wp2_with (first
  |(refine AV (r:=r) rfl (.tmp 1) rfl rfl ?_;intro w1 b1 e1 p1 l1 z1;have P1:=hid p1;have L1:=hid l1;have E1:=hid e1;have Z1:=hid z1;clear e1 p1 l1 z1))
 go_ret
 have e1:=E1.out
 have z1:=Z1.out
 rw[World.size_alloc]at e1 z1
 have q0:=heap_alloc_new w (Obj.cells #[.pointer (some ⟨b,0,none⟩)] 99)
 refine⟨w.heap.size,b1,w1.heap.size,w1.heap.size+1,w1.heap.size+1+1,rfl,Nat.le_refl _,?_,⟨HB.out,by omega,by omega,by omega,by omega⟩,⟨?_,?_,?_,?_,?_⟩,?_⟩
 ·simp only[World.size_alloc];omega
 ·rw[heap_alloc_old _ _ (by simp only[World.size_alloc];omega),heap_alloc_old _ _ (by simp only[World.size_alloc];omega),heap_alloc_old _ _ (by omega),L1.out.block _ (by rw[World.size_alloc];omega)]
  exact q0
 ·unfold Ad
  rw[heap_alloc_old _ _ (by simp only[World.size_alloc];omega),heap_alloc_old _ _ (by simp only[World.size_alloc];omega),heap_alloc_old _ _ (by omega)]
  exact P1.out
 ·rw[heap_alloc_old _ _ (by simp only[World.size_alloc];omega),heap_alloc_old _ _ (by simp only[World.size_alloc];omega)]
  exact heap_alloc_new w1 _
 ·rw[heap_alloc_old _ _ (by simp only[World.size_alloc];omega)]
  have:=heap_alloc_new (w1.alloc (Obj.cells #[.int .i64 0] 3)) (Obj.cells #[.int .i64 0] 3)
  rw[World.size_alloc]at this
  exact this
 ·have:=heap_alloc_new ((w1.alloc (Obj.cells #[.int .i64 0] 3)).alloc (Obj.cells #[.int .i64 0] 3)) (Obj.cells #[.bool false] 4)
  rw[World.size_alloc,World.size_alloc]at this
  exact this
 have h1:Below w.heap.size w w1:=(AZ w _).trans (L1.out.mono (by rw[World.size_alloc];omega))
 exact((h1.alloc h1.size _).alloc (by rw[World.size_alloc];omega) _).alloc (by rw[World.size_alloc,World.size_alloc];omega) _
end EH
end Go.Proofs.YtfgegjinhkgpbaaGreatDoor
