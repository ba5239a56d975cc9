/-
  Texts joined, in build order, each with its own comment and its own conditions: W14Sizes, W14Size, W14Right, W14Atom.
-/
import Derived.Test.YtehdnbidgphecaaGreatDoorJ11
import Derived.Test.YtehdnbidgphecaaGreatDoorJ08
import Derived.Test.YtehdnbidgphecaaGreatDoorTake
import Derived.Deep.RegionHeld3
import Derived.BigQuiet
import Derived.Test.YtehdnbidgphecaaGreatDoorJ07
import Derived.Test.YtehdnbidgphecaaGreatDoorJ09
namespace Go.Proofs.YtehdnbidgphecaaGreatDoor
set_option maxHeartbeats 4000000
set_option maxRecDepth 100000
open Go.RowKit
open Lib (hid)
namespace W14
open Strs Recs M14
open Kit (below_draws on)
def PSize (p:Piece):Prop:= ∀(w:World) (r:Raw),PLow w r p→Calls Tryz.prog 30 #[.agg (rawA r)] w (SizeTo w p)
theorem wrap_nat2 {a:Int} {n:Nat} (h:a=(n:Int)) (hn:n≤9000000):wrap64 a=(n:Int):=by subst h;unfold wrap64;omega
theorem mayB_often {m t:Int} (h:Often m t):mayB m t=true:=by
 obtain⟨⟨h1,h2⟩,h3⟩:=h
 unfold mayB
 rcases h3 with h3|⟨h3,h4⟩<;>simp[*]
def SumTo (w:World) (N0:Nat) (e:Ending) (w':World):Prop:= ∃N:Nat,e= .returned (.int .i64 N)∧Hid (min 4001 N=min 4001 N0)∧Hid (N≤4000000)∧Below w.heap.size w w'
theorem psizes_any {ks:List Piece} (IH: ∀i (hi:i<ks.length),PSize ks[i]) {w:World} {A:Option Addr} {c:Nat} {raws:List Raw} (k1:Kids w A c raws ks):Calls Tryz.prog 43 #[.slice A ks.length c] w (SumTo w (sizes ks)):=by
 have HI:=hid IH
 have hr1:=k1.room.1
 have hr2:=k1.room.2
 have K1:=hid k1
 have HR:=hid (show ks.length≤c∧c≤9223372036854775807 from⟨hr1,hr2⟩)
 clear IH k1
 go_enter Tryz.func43,Tryz.ntmps43
 go_wp2_with fail
 clear hr1 hr2
 go_loopg [3,8] ks.length (fun gk s3 s8 wr=> ∃i n:Nat,s3= .int .i64 n∧s8= .int .i64 i∧Hid (n=sizes (ks.take i))∧Hid (n≤4000)∧Hid (i+gk=ks.length)∧Hid (Kids wr A c raws ks)∧Hid (Below w.heap.size w wr))
 case atStart=>exact⟨0,0,rfl,rfl,rfl,Nat.zero_le _,by unfold Hid;omega,K1,Below.refl _ _⟩
 case round=>
  obtain⟨i,n,rfl,rfl,hn,hnl,hig,K1,HB⟩:=hrel
  have hn1:=HR.out.1
  have hn2:=HR.out.2
  by_cases hi:i<ks.length
  ·have ti:(i:Int)<(ks.length:Int):=by omega
   obtain⟨g1,o1,rfl,C1⟩:=K1.out.at_ (Nat.lt_of_le_of_lt (Nat.zero_le _) hi)
   obtain⟨hr1,q1⟩:=K1.out.kid hi
   have E1:=hid (C1 i hr1)
   have Q1:=hid q1
   have HS:=hid (size_le (ks[i]'hi))
   have HT:=hid (sizes_take hi)
   have HI2:=hid hi
   obtain⟨rk,hrk⟩: ∃rk,raws[i]'hr1=rk:=⟨_,rfl⟩
   rw[hrk]at E1 Q1
   have HC:=hid (fun(w:World) (h:PLow w rk (ks[i]'hi))=>HI.out i hi w rk h)
   obtain⟨m,hm⟩: ∃m,size (ks[i]'hi)=m:=⟨_,rfl⟩
   have HM:=hid hm
   rw[hm]at HS HT
   clear C1 q1 hm hrk
   go_wp2_with (first
    |(refine load_at rfl (.tmp 10) rfl rfl (r:=rk) E1.out ?_)
    |(refine alloc_piece rfl rfl ?_;intro w3 b3 e3 p3 l3 z3)
    |(refine store_piece (r:=rk) rfl (.tmp 5) (.tmp 11) rfl rfl rfl p3 ?_;intro w4 p4 l4 z4;have L4:=hid (two_new l3 l4 e3);have P4:=hid p4;clear e3 p3 l3 z3 p4 l4 z4)
    |(refine load_piece (r:=rk) rfl (.tmp 5) rfl rfl P4.out ?_))
   refine(HC.out _ (Q1.out.below L4.out)).mono ?_
   rintro e w5 ⟨rfl,l5⟩
   rw[HM.out]
   have K5:=hid ((K1.out.below L4.out).below l5)
   have B5:=hid (HB.out.trans ((L4.out.trans (l5.mono L4.out.size)).mono HB.out.size))
   obtain⟨s,hs⟩: ∃s,n+m=s:=⟨_,rfl⟩
   have hw:Hid (wrap64 ((n:Int)+(m:Int))=(s:Int)):=wrap_nat (by rw[←hs,Int.natCast_add]) (by have:=HS.out;have:=hnl.out;omega)
   have HSS:Hid (s=sizes (ks.take (i+1))∧s≤8001):=⟨by rw[HT.out,←hn.out];exact hs.symm,by have:=HS.out;have:=hnl.out;omega⟩
   have hwi:Hid (wrap64 ((i:Int)+1)=((i+1:Nat):Int)):=by unfold Hid wrap64;omega
   have HW:=hw
   clear l5 hs hn hnl HS HT HM
   by_cases hbig:4001≤s
   ·have tb:(4001:Int)≤(s:Int):=by omega
    have HEQ:Hid (min 4001 s=min 4001 (sizes ks)):=by
     have h1:=sizes_take_le ks (i+1)
     rw[←HSS.out.1]at h1
     unfold Hid;omega
    have HSB:Hid (s≤4000000):=Nat.le_trans HSS.out.2 (by decide)
    replace hw:=hw.out
    clear hbig
    go_wp2_with fail
    go_ret
    exact⟨s,by first|rfl|exact congrArg (fun x=>Ending.returned (Value.int .i64 x)) HW.out,HEQ,HSB,B5.out⟩
   ·have tb: ¬(4001:Int)≤(s:Int):=by omega
    have HSB:Hid (s≤4000):=by unfold Hid;omega
    cases gk with
    |zero=>exact absurd hig.out (by have:=HI2.out;omega)
    |succ g=>
     replace hw:=hw.out
     replace hwi:=hwi.out
     have HWI:=hid hwi
     clear hbig
     go_wp2_with fail
     go_roundg g
     case measure=>omega
     case rel=>exact⟨i+1,s,by first|rfl|exact congrArg (Value.int .i64) HW.out,by first|rfl|exact congrArg (Value.int .i64) HWI.out,HSS.out.1,HSB,by have:=hig.out;unfold Hid;omega,K5,B5⟩
  ·have ti: ¬(i:Int)<(ks.length:Int):=by omega
   have hie:i=ks.length:=by have:=hig.out;omega
   have HE:Hid (n=sizes ks):=by have:=hn.out;rw[hie,List.take_length]at this;exact this
   have HSB:Hid (n≤4000000):=Nat.le_trans hnl.out (by decide)
   clear hie
   go_wp2_with fail
   go_ret
   exact⟨n,rfl,by rw[HE.out];rfl,HSB,HB.out⟩
theorem isRepeat_any {m t:Int} (h:Often m t) {A:Option Addr} {c:Nat} (hc:1≤c∧c≤9223372036854775807) (w:World):Calls Tryz.prog 59 #[.agg (rawA ⟨9,⟨#[]⟩,A,1,c,m,t⟩)] w fun e w'=>e= .returned (.bool true)∧Below w.heap.size w w':=by
 have hc1:=hc.1
 have hc2:=hc.2
 have HM:Hid (∀w,Calls Tryz.prog 78 #[.int .i64 m,.int .i64 t] w fun e w'=>e= .returned (.bool true)∧w'=w):=fun w=>by
  have:=mayBe_any m t w
  rw[mayB_often h]at this
  exact this
 clear hc h
 go_enter Tryz.func59,Tryz.ntmps59
 go_wp2_with (first
  |(refine box_arg (r:=⟨9,⟨#[]⟩,A,1,c,m,t⟩) rfl (.tmp 0) rfl rfl ?_;intro w1 b1 e1 p1 l1 z1;have a1:=p1.c1;have a2:=p1.c2;have a3:=p1.c3;have a4:=p1.c4;have L1:=hid l1;clear e1 p1 l1 z1;simp only at a1 a2 a3 a4))
 refine(HM.out _).mono ?_
 rintro e w2 ⟨rfl,rfl⟩
 go_wp2_with fail
 go_ret
 exact⟨rfl,L1.out⟩
theorem repeated_ever {p:Piece} {M:Nat} (hM:M≤100) (IH:PSize p) {w:World} {r:Raw} (h:PLow w r (.mk 9 ⟨#[]⟩ [p] M (-1))):Calls Tryz.prog 44 #[.agg (rawA r)] w (SumTo w (size (.mk 9 ⟨#[]⟩ [p] M (-1)))):=by
 rw[size_rep]
 obtain⟨A,c,raws,rfl,k1⟩:=h.parts
 have hr:1≤c∧c≤9223372036854775807:=k1.room
 obtain⟨g1,o1,rfl,C1⟩:=k1.at_ (Nat.lt_succ_self 0)
 obtain⟨hr1,q1⟩:=k1.kid (i:=0) (Nat.lt_succ_self 0)
 have HG:=hid (k1.2.1 _ rfl (Nat.lt_of_le_of_lt (Nat.zero_le _) hr1))
 have E1:=C1 0 hr1
 obtain⟨rk,hrk⟩: ∃rk,raws[0]=rk:=⟨_,rfl⟩
 rw[hrk]at E1 q1
 have Q1:Hid (PLow w rk p):=q1
 rw[show o1+0*5=o1 by omega]at E1
 have E1:=hid E1
 have HI:=hid (fun(w:World) (h:PLow w rk p)=>IH w rk h)
 have HO:=hid (fun w=>isRepeat_any (m:=(M:Int)) (t:=(-1)) ⟨by omega,by omega⟩ (A:=some ⟨g1,o1,none⟩) hr w)
 have hS:=size_le p
 obtain⟨K,hK⟩: ∃K,size p=K:=⟨_,rfl⟩
 have HK:=hid hK
 rw[hK]at hS ⊢
 have hMS:=mul_small (a:=M) (b:=K) (by omega) (by omega)
 obtain⟨P,hP⟩: ∃P,M*K=P:=⟨_,rfl⟩
 rw[hP]at hMS
 have hw1:Hid (wrap64 ((M:Int)*(K:Int))=(P:Int)):=wrap_nat (by rw[←Int.natCast_mul,hP]) (Nat.le_trans hMS (by decide))
 replace hP:=hid hP
 obtain⟨P2,hP2⟩: ∃P2,P+K=P2:=⟨_,rfl⟩
 have hw2:Hid (wrap64 ((P:Int)+(K:Int))=(P2:Int)):=wrap_nat (by rw[←hP2,Int.natCast_add]) (by omega)
 obtain⟨N,hN⟩: ∃N,P2+2=N:=⟨_,rfl⟩
 have hw3:Hid (wrap64 ((P2:Int)+2)=(N:Int)):=wrap_nat (by rw[←hN,Int.natCast_add];rfl) (by omega)
 have HNB:Hid (N≤4000000):=by unfold Hid;omega
 have HE:Hid (min 4001 (if(-1:Int)= -1 then M*K+K+2 else M*K+(-1-(M:Int)).toNat*(K+1))=min 4001 N):=by
  unfold Hid
  rw[if_pos rfl,hP.out,hP2,hN]
 rw[HE.out]
 have HWL:=hw3
 have HFIN:Hid (min 4001 N=min 4001 (min 4001 N)):=by unfold Hid;omega
 have hc1:=hr.1
 have hc2:=hr.2
 clear h k1 C1 q1 hrk hr1 IH hK hS hMS hr HE hM hN hP2
 go_enter Tryz.func44,Tryz.ntmps44
 go_wp2_with (first
  |(refine box_arg (r:=⟨9,⟨#[]⟩,some ⟨g1,o1,none⟩,1,c,(M:Int),(-1)⟩) rfl (.tmp 0) rfl rfl ?_;intro w1 b1 e1 p1 l1 z1;have P1:=hid p1;have L1:=hid l1;clear e1 p1 l1 z1)
  |(refine load_piece (r:=⟨9,⟨#[]⟩,some ⟨g1,o1,none⟩,1,c,(M:Int),(-1)⟩) rfl (.tmp 1) rfl rfl P1.out ?_))
 refine(HO.out _).mono ?_
 rintro e w2 ⟨rfl,l2⟩
 have PB2:=hid (P1.out.below l2)
 have L2:=hid (L1.out.trans (l2.mono L1.out.size))
 have E2:Hid (∀j,j<5→w2.cell? ⟨g1,o1+j,none⟩=(rawC rk)[j]?):=fun j hj=>(cell_block (L2.out.block g1 HG.out)).trans (E1.out j hj)
 have Q2:=hid (Q1.out.below L2.out)
 have a2:=PB2.out.c2
 simp only at a2
 clear l2
 go_wp2_with (first|(refine load_at rfl (.tmp 10) rfl rfl (r:=rk) E2.out ?_))
 refine(HI.out _ Q2.out).mono ?_
 rintro e w3 ⟨rfl,l3⟩
 rw[HK.out]
 have PB3:=hid (PB2.out.below l3)
 have L3:=hid (L2.out.trans (l3.mono L2.out.size))
 have a3:=PB3.out.c3
 have a4:=PB3.out.c4
 simp only at a3 a4
 replace hw1:=hw1.out
 replace hw2:=hw2.out
 replace hw3:=hw3.out
 clear l3
 go_wp2_with fail
 go_ret
 exact⟨N,by first|rfl|exact congrArg (fun x=>Ending.returned (Value.int .i64 x)) HWL.out,HFIN.out,HNB.out,L3.out⟩
theorem repeated_upto {p:Piece} {M T:Nat} (hM:M≤100) (hT:M≤T∧T≤100) (IH:PSize p) {w:World} {r:Raw} (h:PLow w r (.mk 9 ⟨#[]⟩ [p] M (T:Int))):Calls Tryz.prog 44 #[.agg (rawA r)] w (SumTo w (size (.mk 9 ⟨#[]⟩ [p] M (T:Int)))):=by
 rw[size_rep]
 obtain⟨A,c,raws,rfl,k1⟩:=h.parts
 have hr:1≤c∧c≤9223372036854775807:=k1.room
 obtain⟨g1,o1,rfl,C1⟩:=k1.at_ (Nat.lt_succ_self 0)
 obtain⟨hr1,q1⟩:=k1.kid (i:=0) (Nat.lt_succ_self 0)
 have HG:=hid (k1.2.1 _ rfl (Nat.lt_of_le_of_lt (Nat.zero_le _) hr1))
 have E1:=C1 0 hr1
 obtain⟨rk,hrk⟩: ∃rk,raws[0]=rk:=⟨_,rfl⟩
 rw[hrk]at E1 q1
 have Q1:Hid (PLow w rk p):=q1
 rw[show o1+0*5=o1 by omega]at E1
 have E1:=hid E1
 have HI:=hid (fun(w:World) (h:PLow w rk p)=>IH w rk h)
 have HO:=hid (fun w=>isRepeat_any (m:=(M:Int)) (t:=(T:Int)) ⟨by omega,by omega⟩ (A:=some ⟨g1,o1,none⟩) hr w)
 have hS:=size_le p
 obtain⟨K,hK⟩: ∃K,size p=K:=⟨_,rfl⟩
 have HK:=hid hK
 rw[hK]at hS ⊢
 have hMS:=mul_small (a:=M) (b:=K) (by omega) (by omega)
 obtain⟨P,hP⟩: ∃P,M*K=P:=⟨_,rfl⟩
 rw[hP]at hMS
 have hw1:Hid (wrap64 ((M:Int)*(K:Int))=(P:Int)):=wrap_nat (by rw[←Int.natCast_mul,hP]) (Nat.le_trans hMS (by decide))
 replace hP:=hid hP
 obtain⟨D,hD⟩: ∃D,T-M=D:=⟨_,rfl⟩
 have hw2:Hid (wrap64 ((T:Int)-(M:Int))=(D:Int)):=wrap_nat (by omega) (by omega)
 obtain⟨K2,hK2⟩: ∃K2,K+1=K2:=⟨_,rfl⟩
 have hw3:Hid (wrap64 ((K:Int)+1)=(K2:Int)):=wrap_nat (by omega) (by omega)
 have hDS:=mul_small (a:=D) (b:=K2) (by omega) (by omega)
 obtain⟨G,hG⟩: ∃G,D*K2=G:=⟨_,rfl⟩
 rw[hG]at hDS
 have hw4:Hid (wrap64 ((D:Int)*(K2:Int))=(G:Int)):=wrap_nat (by rw[←Int.natCast_mul,hG]) (Nat.le_trans hDS (by decide))
 replace hG:=hid hG
 obtain⟨N,hN⟩: ∃N,P+G=N:=⟨_,rfl⟩
 have hw5:Hid (wrap64 ((P:Int)+(G:Int))=(N:Int)):=wrap_nat (by rw[←hN,Int.natCast_add]) (by omega)
 have HNB:Hid (N≤4000000):=by unfold Hid;omega
 have HE:Hid (min 4001 (if(T:Int)= -1 then M*K+K+2 else M*K+((T:Int)-(M:Int)).toNat*(K+1))=min 4001 N):=by
  unfold Hid
  rw[if_neg (by omega),show((T:Int)-(M:Int)).toNat=D by omega,hP.out,hK2,hG.out,hN]
 have x0:Hid (((T:Int)== -1)=false):=by unfold Hid;simp
 rw[HE.out]
 have HWL:=hw5
 have HFIN:Hid (min 4001 N=min 4001 (min 4001 N)):=by unfold Hid;omega
 have hc1:=hr.1
 have hc2:=hr.2
 clear h k1 C1 q1 hrk hr1 IH hK hS hMS hr HE hM hN hT hD hK2 hDS
 go_enter Tryz.func44,Tryz.ntmps44
 go_wp2_with (first
  |(refine box_arg (r:=⟨9,⟨#[]⟩,some ⟨g1,o1,none⟩,1,c,(M:Int),(T:Int)⟩) rfl (.tmp 0) rfl rfl ?_;intro w1 b1 e1 p1 l1 z1;have P1:=hid p1;have L1:=hid l1;clear e1 p1 l1 z1)
  |(refine load_piece (r:=⟨9,⟨#[]⟩,some ⟨g1,o1,none⟩,1,c,(M:Int),(T:Int)⟩) rfl (.tmp 1) rfl rfl P1.out ?_))
 refine(HO.out _).mono ?_
 rintro e w2 ⟨rfl,l2⟩
 have PB2:=hid (P1.out.below l2)
 have L2:=hid (L1.out.trans (l2.mono L1.out.size))
 have E2:Hid (∀j,j<5→w2.cell? ⟨g1,o1+j,none⟩=(rawC rk)[j]?):=fun j hj=>(cell_block (L2.out.block g1 HG.out)).trans (E1.out j hj)
 have Q2:=hid (Q1.out.below L2.out)
 have a2:=PB2.out.c2
 simp only at a2
 clear l2
 go_wp2_with (first|(refine load_at rfl (.tmp 10) rfl rfl (r:=rk) E2.out ?_))
 refine(HI.out _ Q2.out).mono ?_
 rintro e w3 ⟨rfl,l3⟩
 rw[HK.out]
 have PB3:=hid (PB2.out.below l3)
 have L3:=hid (L2.out.trans (l3.mono L2.out.size))
 have a3:=PB3.out.c3
 have a4:=PB3.out.c4
 simp only at a3 a4
 replace hw1:=hw1.out
 replace hw2:=hw2.out
 replace hw3:=hw3.out
 replace hw4:=hw4.out
 replace hw5:=hw5.out
 replace x0:=x0.out
 clear l3
 go_wp2_with fail
 go_ret
 exact⟨N,by first|rfl|exact congrArg (fun x=>Ending.returned (Value.int .i64 x)) HWL.out,HFIN.out,HNB.out,L3.out⟩
end W14
namespace W14
open Strs Recs M14
open Kit (below_draws on)
theorem psize_leaf {k:Int} (hk:k=1∨k=2∨k=3∨k=4∨k=5∨k=6) (t:ByteArray):PSize (M14.leaf k t):=by
 intro w r h
 unfold SizeTo
 rw[size_leaf hk]
 unfold M14.leaf at h
 obtain⟨A,c,raws,rfl,k1⟩:=h.parts
 have r1:=k1.room.2
 simp only[List.length_nil]
 clear h k1
 rcases hk with rfl|rfl|rfl|rfl|rfl|rfl
 all_goals
  go_enter Tryz.func30,Tryz.ntmps30
  go_wp2_with (first
   |(refine box_arg rfl (.tmp 0) rfl rfl ?_;intro w1 b1 e1 p1 l1 z1;have a0:=p1.c0;have L1:=hid l1;clear e1 p1 l1 z1;simp only at a0))
  go_ret
  exact⟨by first|rfl|simp,L1.out⟩
theorem min_sum {N M0:Nat} (h:min 4001 N=min 4001 M0):min (N:Int) 4001=((min 4001 M0:Nat):Int):=by omega
theorem psize_seq {ks:List Piece} (IH: ∀i (hi:i<ks.length),PSize ks[i]):PSize (.mk 7 ⟨#[]⟩ ks 0 0):=by
 intro w r h
 unfold SizeTo
 have hs:size (.mk 7 ⟨#[]⟩ ks 0 0)=min 4001 (sizes ks):=by
  unfold size
  rw[if_neg (by decide),if_neg (by decide),if_pos rfl]
 rw[hs]
 obtain⟨A,c,raws,rfl,k1⟩:=h.parts
 have HI:=hid IH
 have K1:=hid k1
 have hr1:=k1.room.1
 have hr2:=k1.room.2
 clear h k1 IH hs
 go_enter Tryz.func30,Tryz.ntmps30
 go_wp2_with (first
  |(refine box_arg (r:=⟨7,⟨#[]⟩,A,ks.length,c,0,0⟩) rfl (.tmp 0) rfl rfl ?_;intro w1 b1 e1 p1 l1 z1;have a0:=p1.c0;have a2:=p1.c2;have L1:=hid l1;clear e1 p1 l1 z1;simp only at a0 a2))
 refine(psizes_any HI.out (K1.out.below L1.out)).mono ?_
 rintro e w2 ⟨N,rfl,hN1,hN2,l2⟩
 have L2:=hid (L1.out.trans (l2.mono L1.out.size))
 have hmin:=min_sum hN1.out
 have HMIN:=hid hmin
 clear l2 hN1 hN2
 go_wp2_with fail
 go_ret
 exact⟨by first|rfl|exact congrArg (fun x=>Ending.returned (Value.int .i64 x)) HMIN.out,L2.out⟩
theorem psize_alt {ks:List Piece} (h3:ks.length≤1000∧2≤ks.length) (IH: ∀i (hi:i<ks.length),PSize ks[i]):PSize (.mk 8 ⟨#[]⟩ ks 0 0):=by
 intro w r h
 unfold SizeTo
 have hs:size (.mk 8 ⟨#[]⟩ ks 0 0)=min 4001 (sizes ks+2*(ks.length-1)):=by
  unfold size
  rw[if_neg (by decide),if_neg (by decide),if_neg (by decide),if_pos rfl]
 rw[hs]
 obtain⟨A,c,raws,rfl,k1⟩:=h.parts
 have HI:=hid IH
 have K1:=hid k1
 have hr1:=k1.room.1
 have hr2:=k1.room.2
 obtain⟨n,hn⟩: ∃n,ks.length=n+1:=⟨ks.length-1,by omega⟩
 have hwn:wrap64 ((ks.length:Int)-1)=(n:Int):=wrap_nat (by omega) (by omega)
 have hmx:max (n:Int) 0=(n:Int):=by omega
 have hw2:Hid (wrap64 (2*(n:Int))=((2*n:Nat):Int)):=wrap_nat (by rw[Int.natCast_mul];rfl) (by omega)
 obtain⟨m,hm⟩: ∃m,2*n=m:=⟨_,rfl⟩
 rw[hm]at hw2
 have HX:Hid (wrap64 (2*max ((ks.length:Int)-1) 0)=(m:Int)):=by
  unfold Hid
  rw[show max ((ks.length:Int)-1) 0=(n:Int) by omega];exact hw2.out
 have HWN:Hid (∀N:Nat,min 4001 N=min 4001 (sizes ks)→N≤4000000→ ∃s:Nat,Hid (wrap64 ((N:Int)+(m:Int))=(s:Int))∧Hid (min (s:Int) 4001=((min 4001 (sizes ks+2*(ks.length-1)):Nat):Int))):=by
  intro N h1 h2
  refine⟨N+m,wrap_nat2 (by rw[Int.natCast_add]) (by omega),?_⟩
  unfold Hid
  omega
 clear h k1 IH hs h3 hn hm
 replace hwn:=hid hwn
 go_enter Tryz.func30,Tryz.ntmps30
 go_wp2_with (first
  |(refine box_arg (r:=⟨8,⟨#[]⟩,A,ks.length,c,0,0⟩) rfl (.tmp 0) rfl rfl ?_;intro w1 b1 e1 p1 l1 z1;have P1:=hid p1;have a0:=p1.c0;have a2:=p1.c2;have L1:=hid l1;clear e1 p1 l1 z1;simp only at a0 a2))
 have S0:Hid ((w1.drewN 1).cell? ⟨b1,2,none⟩=some (.slice A ks.length c)∧Below w1.heap.size w1 (w1.drewN 1)):=⟨a2,below_draws w1 1⟩
 have KEEP:Hid (∀x,Below w1.heap.size w1 x→x.cell? ⟨b1,2,none⟩=some (.slice A ks.length c)∧Below w1.heap.size w1 x):=fun x hx=>⟨(P1.out.below hx).c2,hx⟩
 have K1:=hid (K1.out.below L1.out)
 refine wp_region_held_drew (S:=fun w'=>w'.cell? ⟨b1,2,none⟩=some (.slice A ks.length c)∧Below w1.heap.size w1 w') (by kernel_rfl) S0.out (fun hHeld=> ?_)
 refine Take.k 0 ⟨some 21,.fieldAddr 25 (.tmp 1) 2,_,_,_,none⟩ ?_
 refine Take.k 1 ⟨some 22,.load 23 (.tmp 21),_,_,_,none⟩ ?_
 refine Take.k 3 ⟨some 24,.fieldAddr 25 (.tmp 1) 2,_,_,_,none⟩ ?_
 refine Take.k 4 ⟨some 25,.load 23 (.tmp 24),_,_,_,none⟩ ?_
 refine Take.k 5 ⟨some 26,.call ⟨.builtin .len, #[.tmp 25], #[23]⟩,_,_,_,none⟩ ?_
 refine Take.k 6 ⟨some 27,.binOp .sub 3 (.tmp 26) (.const (.int .i64 1)) 3,_,_,_,none⟩ ?_
 refine Take.k 7 ⟨some 28,.call ⟨.builtin .max, #[.tmp 27,.const (.int .i64 0)], #[3,3]⟩,_,_,_,none⟩ ?_
 refine Take.k 8 ⟨some 29,.binOp .mul 3 (.const (.int .i64 2)) (.tmp 28) 3,_,_,_,none⟩ ?_
 refine wpAnyH_ready (rs:= [2]) (by kernel_rfl) (by simp) ?_
 refine AllReadyH.cons (o:=⟨some 23,.call ⟨.value (.func 43), #[.tmp 22], #[23]⟩,_,_,_,none⟩) rfl (fun K hK=> ?_) AllReadyH.nil
 go_simp
 (go_at_call 43;refine(psizes_any HI.out (K1.out.below S0.out.2)).mono ?_;rintro e x1 ⟨N,rfl,hN1,hN2,l5⟩;have hS1:=KEEP.out _ (S0.out.2.trans (l5.mono S0.out.2.size));have hwN:=HWN.out N hN1.out hN2.out;clear l5)
 go_wp2_with fail
 refine hK.out _ _ ?_ (fun hHeld=> ?_)
 ·exact hS1
 clear hK K
 try simp only[Act.put,Take.a,Take.b,Take.c]
 refine Take.k 9 ⟨some 30,.binOp .add 3 (.tmp 23) (.tmp 29) 3,_,_,_,none⟩ ?_
 refine Take.k 10 ⟨some 3,.assign (.tmp 30),_,_,_,none⟩ ?_
 refine wpAnyH_done (by kernel_rfl) ?_ _
 obtain⟨s,hs1,hs2⟩:=hwN
 have HV:Hid (min (wrap64 ((N:Int)+wrap64 (2*max ((ks.length:Int)-1) 0))) 4001=((min 4001 (sizes ks+2*(ks.length-1)):Nat):Int)):=by
  unfold Hid
  rw[HX.out,hs1.out];exact hs2.out
 have L9:=hid (L1.out.trans (hS1.2.mono L1.out.size))
 clear hS1 hmx hN1 hN2 hs1 hs2
 go_wp2_with fail
 go_ret
 exact⟨by first|rfl|exact congrArg (fun x=>Ending.returned (Value.int .i64 x)) HV.out,L9.out⟩
theorem psize_rep {p:Piece} {m t:Int} (hR: ∀(w:World) (r:Raw),PLow w r (.mk 9 ⟨#[]⟩ [p] m t)→Calls Tryz.prog 44 #[.agg (rawA r)] w (SumTo w (size (.mk 9 ⟨#[]⟩ [p] m t)))):PSize (.mk 9 ⟨#[]⟩ [p] m t):=by
 intro w r h
 unfold SizeTo
 have hle:=size_le (.mk 9 ⟨#[]⟩ [p] m t)
 have HR:=hid (fun w=>hR w r)
 have HL:=hid h
 obtain⟨s,hs⟩: ∃s,size (.mk 9 ⟨#[]⟩ [p] m t)=s:=⟨_,rfl⟩
 rw[hs]at HR hle ⊢
 obtain⟨A,c,raws,rfl,k1⟩:=h.parts
 clear h k1 hs
 go_enter Tryz.func30,Tryz.ntmps30
 go_wp2_with (first
  |(refine box_arg (r:=⟨9,⟨#[]⟩,A,[p].length,c,m,t⟩) rfl (.tmp 0) rfl rfl ?_;intro w1 b1 e1 p1 l1 z1;have P1:=hid p1;have a0:=p1.c0;have L1:=hid l1;clear e1 p1 l1 z1;simp only at a0)
  |(refine load_piece (r:=⟨9,⟨#[]⟩,A,[p].length,c,m,t⟩) rfl (.tmp 1) rfl rfl P1.out ?_))
 refine(HR.out _ (HL.out.below L1.out)).mono ?_
 rintro e w2 ⟨N,rfl,hN1,hN2,l2⟩
 have L2:=hid (L1.out.trans (l2.mono L1.out.size))
 have HV:Hid (min (N:Int) 4001=(s:Int)):=by have:=hN1.out;unfold Hid;omega
 clear l2 hN1 hN2 hle
 go_wp2_with fail
 go_ret
 exact⟨by first|rfl|exact congrArg (fun x=>Ending.returned (Value.int .i64 x)) HV.out,L2.out⟩
theorem psize_any {p:Piece} (h:Whole p):PSize p:=by
 induction h with
 |none k hk=>exact psize_leaf (by omega) _
 |char c=>exact psize_leaf (by omega) _
 |set f=>exact psize_leaf (by omega) _
 |many k hk l h2 h3 hw ih=>
  have IH: ∀i (hi:i<l.length),PSize l[i]:=fun i hi=>ih l[i] (List.getElem_mem hi)
  rcases hk with rfl|rfl
  ·exact psize_seq IH
  ·exact psize_alt ⟨h3,h2⟩ IH
 |rep p m t hm ht hw ih=>
  obtain⟨M,rfl⟩: ∃M:Nat,m=(M:Int):=⟨m.toNat,by omega⟩
  by_cases q:t= -1
  ·subst q;exact psize_rep fun w r q=>repeated_ever (by omega) ih q
  ·obtain⟨T,rfl⟩: ∃T:Nat,t=(T:Int):=⟨t.toNat,by omega⟩
   exact psize_rep fun w r q=>repeated_upto (by omega) (by omega) ih q
end W14
namespace W14
open Strs Recs M14
open Kit (below_draws on)
theorem pnot_tx (f:Nat→Bool) (w:World):Calls Tryz.prog 115 #[.string (W13.tx f)] w fun e w'=>e= .returned (.string (W13.tx fun i=> !f i))∧Below w.heap.size w w':=
 (W13.not_any _ _).mono fun _ _ h=>⟨h.1.trans (congrArg (fun x=>Ending.returned (.string x)) (W13.tx_congr fun i hi=>by rw[W13.has_tx f hi])),h.2⟩
theorem isSet_any (f:Nat→Bool) (w:World):Calls Tryz.prog 98 #[.string (txt f)] w fun e w'=>e= .returned (.bool true)∧Below w.heap.size w w':=by
 have h1:=pnot_tx f
 have h2:=pnot_tx (fun i=> !f i)
 rw[show(W13.tx fun i=> !(!f i))=W13.tx f from W13.tx_congr fun _ _=>Bool.not_not _]at h2
 obtain⟨d,hd⟩: ∃d,W13.tx f=d:=⟨_,rfl⟩
 obtain⟨g,hg⟩: ∃g,(W13.tx fun i=> !f i)=g:=⟨_,rfl⟩
 rw[show txt f=W13.tx f from rfl]
 rw[hd,hg]at h1
 rw[hg,hd]at h2
 rw[hd]
 have H1:=hid h1
 have H2:=hid h2
 clear h1 h2 hd hg
 have te:(d.toList==d.toList)=true:=beq_self_eq_true _
 go_enter Tryz.func98,Tryz.ntmps98
 go_wp2_with fail
 refine(H1.out _).mono ?_
 rintro e w2 ⟨rfl,l2⟩
 have L2:=hid l2
 clear l2
 go_wp2_with fail
 refine(H2.out _).mono ?_
 rintro e w3 ⟨rfl,l3⟩
 have L3:=hid (on L2.out l3)
 clear l3
 go_wp2_with fail
 go_ret
 exact⟨rfl,L3.out⟩
def YesTo (w:World) (e:Ending) (w':World):Prop:=e= .returned (.bool true)∧Below w.heap.size w w'
def Alike (p:Piece):Prop:= ∀(w:World) (r:Raw),PLow w r p→Calls Tryz.prog 79 #[.agg (rawA r)] w (YesTo w)
theorem alike_none {k:Int} (hk:k=1∨k=3∨k=5∨k=6):Alike (M14.leaf k ⟨#[]⟩):=by
 intro w r h
 unfold YesTo
 unfold M14.leaf at h
 obtain⟨A,c,raws,rfl,k1⟩:=h.parts
 have r1:=k1.room.2
 clear h k1
 simp only[List.length_nil]
 rcases hk with rfl|rfl|rfl|rfl
 all_goals
  go_enter Tryz.func79,Tryz.ntmps79
  go_wp2_with (first
   |(refine box_arg rfl (.tmp 0) rfl rfl ?_;intro w1 b1 e1 p1 l1 z1;have a0:=p1.c0;have a1:=p1.c1;have a2:=p1.c2;have a3:=p1.c3;have a4:=p1.c4;have L1:=hid l1;clear e1 p1 l1 z1;simp only at a0 a1 a2 a3 a4))
  go_ret
  exact⟨rfl,L1.out⟩
theorem alike_char (u:UInt8):Alike (M14.leaf 2 (chr u)):=by
 intro w r h
 unfold YesTo
 unfold M14.leaf at h
 obtain⟨A,c,raws,rfl,k1⟩:=h.parts
 have r1:=k1.room.2
 clear h k1
 simp only[List.length_nil]
 obtain⟨d,hd⟩: ∃d,chr u=d:=⟨_,rfl⟩
 have hz:d.size=1:=by rw[←hd];rfl
 rw[hd]
 clear hd
 go_enter Tryz.func79,Tryz.ntmps79
 go_wp2_with (first
  |(refine box_arg rfl (.tmp 0) rfl rfl ?_;intro w1 b1 e1 p1 l1 z1;have a0:=p1.c0;have a1:=p1.c1;have a2:=p1.c2;have a3:=p1.c3;have a4:=p1.c4;have L1:=hid l1;clear e1 p1 l1 z1;simp only at a0 a1 a2 a3 a4))
 go_ret
 exact⟨rfl,L1.out⟩
theorem alike_set (f:Nat→Bool):Alike (M14.leaf 4 (txt f)):=by
 intro w r h
 unfold YesTo
 unfold M14.leaf at h
 obtain⟨A,c,raws,rfl,k1⟩:=h.parts
 have r1:=k1.room.2
 have HS:=hid (isSet_any f)
 clear h k1
 simp only[List.length_nil]
 obtain⟨d,hd⟩: ∃d,txt f=d:=⟨_,rfl⟩
 rw[hd]at HS ⊢
 clear hd
 go_enter Tryz.func79,Tryz.ntmps79
 go_wp2_with (first
  |(refine box_arg (r:=⟨4,d,A,0,c,0,0⟩) rfl (.tmp 0) rfl rfl ?_;intro w1 b1 e1 p1 l1 z1;have P1:=hid p1;have a0:=p1.c0;have a1:=p1.c1;have a2:=p1.c2;have a3:=p1.c3;have a4:=p1.c4;have L1:=hid l1;clear e1 p1 l1 z1;simp only at a0 a1 a2 a3 a4))
 refine(HS.out _).mono ?_
 rintro e w2 ⟨rfl,l2⟩
 have PB2:=hid (P1.out.below l2)
 have L2:=hid (L1.out.trans (l2.mono L1.out.size))
 have d2:=PB2.out.c2
 simp only at d2
 clear l2
 go_wp2_with fail
 go_ret
 exact⟨rfl,L2.out⟩
theorem alike_many {k:Int} (hk:k=7∨k=8) {ks:List Piece} (h2:2≤ks.length):Alike (.mk k ⟨#[]⟩ ks 0 0):=by
 intro w r h
 unfold YesTo
 obtain⟨A,c,raws,rfl,k1⟩:=h.parts
 have hr1:=k1.room.1
 have hr2:=k1.room.2
 have t2:(2:Int)≤(ks.length:Int):=by omega
 clear h k1 h2
 rcases hk with rfl|rfl
 all_goals
  go_enter Tryz.func79,Tryz.ntmps79
  go_wp2_with (first
   |(refine box_arg rfl (.tmp 0) rfl rfl ?_;intro w1 b1 e1 p1 l1 z1;have a0:=p1.c0;have a1:=p1.c1;have a2:=p1.c2;have a3:=p1.c3;have a4:=p1.c4;have L1:=hid l1;clear e1 p1 l1 z1;simp only at a0 a1 a2 a3 a4))
  go_ret
  exact⟨rfl,L1.out⟩
theorem alike_rep {p:Piece} {m t:Int} (ho:Often m t):Alike (.mk 9 ⟨#[]⟩ [p] m t):=by
 intro w r h
 unfold YesTo
 obtain⟨A,c,raws,rfl,k1⟩:=h.parts
 have hr:1≤c∧c≤9223372036854775807:=k1.room
 have HO:Hid (∀w,Calls Tryz.prog 59 #[.agg (rawA ⟨9,⟨#[]⟩,A,[p].length,c,m,t⟩)] w fun e w'=>e= .returned (.bool true)∧Below w.heap.size w w'):=fun w=>isRepeat_any ho hr w
 clear h k1 hr ho
 go_enter Tryz.func79,Tryz.ntmps79
 go_wp2_with (first
  |(refine box_arg (r:=⟨9,⟨#[]⟩,A,[p].length,c,m,t⟩) rfl (.tmp 0) rfl rfl ?_;intro w1 b1 e1 p1 l1 z1;have P1:=hid p1;have a0:=p1.c0;have L1:=hid l1;clear e1 p1 l1 z1;simp only at a0)
  |(refine load_piece (r:=⟨9,⟨#[]⟩,A,[p].length,c,m,t⟩) rfl (.tmp 1) rfl rfl P1.out ?_))
 refine(HO.out _).mono ?_
 rintro e w2 ⟨rfl,l2⟩
 have L2:=hid (L1.out.trans (l2.mono L1.out.size))
 clear l2
 go_wp2_with fail
 go_ret
 exact⟨rfl,L2.out⟩
def Parsd (p:Piece):Prop:= ∀(w:World) (r:Raw),PLow w r p→Calls Tryz.prog 60 #[.agg (rawA r)] w (YesTo w)
theorem parsed_mk {k:Int} {t:ByteArray} {ks:List Piece} {l tp:Int} (hA:Alike (.mk k t ks l tp)) (IH: ∀i (hi:i<ks.length),Parsd ks[i]):Parsd (.mk k t ks l tp):=by
 intro w r h
 unfold YesTo
 have HI:=hid IH
 have HA:=hid (fun w=>hA w r)
 have HL:=hid h
 obtain⟨A,c,raws,rfl,k1⟩:=h.parts
 have K1:=hid k1
 have HR:=hid k1.room
 clear h k1 IH hA
 go_enter Tryz.func60,Tryz.ntmps60
 go_wp2_with (first
  |(refine box_arg (r:=⟨k,t,A,ks.length,c,l,tp⟩) rfl (.tmp 0) rfl rfl ?_;intro w1 b1 e1 p1 l1 z1;have P1:=hid p1;have L1:=hid l1;clear e1 p1 l1 z1)
  |(refine load_piece (r:=⟨k,t,A,ks.length,c,l,tp⟩) rfl (.tmp 1) rfl rfl P1.out ?_))
 refine(HA.out _ (HL.out.below L1.out)).mono ?_
 rintro e w2 ⟨rfl,l2⟩
 have PB2:=hid (P1.out.below l2)
 have L2:=hid (L1.out.trans (l2.mono L1.out.size))
 have K2:=hid (K1.out.below L2.out)
 have a2:=PB2.out.c2
 simp only at a2
 have hr1:=HR.out.1
 have hr2:=HR.out.2
 clear l2
 go_wp2_with fail
 clear a2 hr1 hr2
 go_loopg [11] ks.length (fun gk s11 wr=> ∃i:Nat,s11= .int .i64 i∧Hid (i+gk=ks.length)∧Hid (Kids wr A c raws ks)∧Hid (Below w.heap.size w wr))
 case atStart=>exact⟨0,rfl,by unfold Hid;omega,K2,L2⟩
 case round=>
  obtain⟨i,rfl,hig,K1,HB⟩:=hrel
  have hn1:=HR.out.1
  have hn2:=HR.out.2
  by_cases hi:i<ks.length
  ·have ti:(i:Int)<(ks.length:Int):=by omega
   obtain⟨g1,o1,rfl,C1⟩:=K1.out.at_ (Nat.lt_of_le_of_lt (Nat.zero_le _) hi)
   obtain⟨hr1,q1⟩:=K1.out.kid hi
   have E1:=hid (C1 i hr1)
   have Q1:=hid q1
   have HI2:=hid hi
   obtain⟨rk,hrk⟩: ∃rk,raws[i]'hr1=rk:=⟨_,rfl⟩
   rw[hrk]at E1 Q1
   have HC:=hid (fun(w:World) (h:PLow w rk (ks[i]'hi))=>HI.out i hi w rk h)
   have hwi:Hid (wrap64 ((i:Int)+1)=((i+1:Nat):Int)):=by unfold Hid wrap64;omega
   clear C1 q1 hrk
   go_wp2_with (first
    |(refine load_at rfl (.tmp 13) rfl rfl (r:=rk) E1.out ?_)
    |(refine alloc_piece rfl rfl ?_;intro w3 b3 e3 p3 l3 z3)
    |(refine store_piece (r:=rk) rfl (.tmp 4) (.tmp 14) rfl rfl rfl p3 ?_;intro w4 p4 l4 z4;have L4:=hid (two_new l3 l4 e3);have P4:=hid p4;clear e3 p3 l3 z3 p4 l4 z4)
    |(refine load_piece (r:=rk) rfl (.tmp 4) rfl rfl P4.out ?_))
   refine(HC.out _ (Q1.out.below L4.out)).mono ?_
   rintro e w5 ⟨rfl,l5⟩
   have K5:=hid ((K1.out.below L4.out).below l5)
   have B5:=hid (HB.out.trans ((L4.out.trans (l5.mono L4.out.size)).mono HB.out.size))
   clear l5
   cases gk with
   |zero=>exact absurd hig.out (by have:=HI2.out;omega)
   |succ g=>
    go_wp2_with fail
    go_roundg g
    case measure=>omega
    case rel=>exact⟨i+1,by first|rfl|exact congrArg (Value.int .i64) hwi.out,by have:=hig.out;unfold Hid;omega,K5,B5⟩
  ·have ti: ¬(i:Int)<(ks.length:Int):=by omega
   go_wp2_with fail
   go_ret
   exact⟨rfl,HB.out⟩
theorem parsed_any {p:Piece} (h:Whole p):Parsd p:=by
 induction h with
 |none k hk=>exact parsed_mk (alike_none hk) fun i hi=>absurd hi (by simp)
 |char c=>exact parsed_mk (alike_char c) fun i hi=>absurd hi (by simp)
 |set f=>exact parsed_mk (alike_set f) fun i hi=>absurd hi (by simp)
 |many k hk l h2 h3 hw ih=>exact parsed_mk (alike_many hk h2) fun i hi=>ih l[i] (List.getElem_mem hi)
 |rep p m t hm ht hw ih=>
  refine parsed_mk (alike_rep ⟨hm,ht⟩) fun i hi=> ?_
  obtain rfl:i=0:=by simpa using hi
  exact ih
theorem right_any {p:Piece} (h:Whole p) {w:World} {r:Raw} (hl:PLow w r p):Calls Tryz.prog 45 #[.agg (rawA r)] w fun e w'=>e= .returned (.bool (decide ((size p:Int)≤4000)))∧Below w.heap.size w w':=by
 have HS:=hid (psize_any h)
 have HP:=hid (parsed_any h)
 have HL:=hid hl
 obtain⟨n,hn⟩: ∃n,size p=n:=⟨_,rfl⟩
 have HN:=hid hn
 rw[hn]
 clear h hl hn
 by_cases hb:(n:Int)≤4000
 ·have td:decide ((n:Int)≤4000)=true:=decide_eq_true hb
  rw[td]
  go_enter Tryz.func45,Tryz.ntmps45
  go_wp2_with (first
   |(refine box_arg (r:=r) rfl (.tmp 0) rfl rfl ?_;intro w1 b1 e1 p1 l1 z1;have P1:=hid p1;have L1:=hid l1;have a0:=p1.c0;have a1:=p1.c1;have a2:=p1.c2;have a3:=p1.c3;have a4:=p1.c4;clear e1 p1 l1 z1)
   |(refine load_piece (r:=r) rfl (.tmp 1) rfl rfl P1.out ?_))
  refine(HS.out _ _ (HL.out.below L1.out)).mono ?_
  rintro e w2 ⟨rfl,l2⟩
  rw[HN.out]
  have PB2:=hid (P1.out.below l2)
  have L2:=hid (L1.out.trans (l2.mono L1.out.size))
  have a0:=PB2.out.c0
  have a1:=PB2.out.c1
  have a2:=PB2.out.c2
  have a3:=PB2.out.c3
  have a4:=PB2.out.c4
  clear l2
  go_wp2_with fail
  refine(HP.out _ _ (HL.out.below L2.out)).mono ?_
  rintro e w3 ⟨rfl,l3⟩
  have L3:=hid (L2.out.trans (l3.mono L2.out.size))
  clear l3
  go_wp2_with fail
  go_ret
  exact⟨rfl,L3.out⟩
 ·have td:decide ((n:Int)≤4000)=false:=decide_eq_false hb
  rw[td]
  go_enter Tryz.func45,Tryz.ntmps45
  go_wp2_with (first
   |(refine box_arg (r:=r) rfl (.tmp 0) rfl rfl ?_;intro w1 b1 e1 p1 l1 z1;have P1:=hid p1;have L1:=hid l1;clear e1 p1 l1 z1)
   |(refine load_piece (r:=r) rfl (.tmp 1) rfl rfl P1.out ?_))
  refine(HS.out _ _ (HL.out.below L1.out)).mono ?_
  rintro e w2 ⟨rfl,l2⟩
  rw[HN.out]
  have L2:=hid (L1.out.trans (l2.mono L1.out.size))
  clear l2
  go_wp2_with fail
  go_ret
  exact⟨rfl,L2.out⟩
end W14
namespace W14
open M14
open Row256 (Beside)
open Kit (ret_str ret_bool ret_int mk_of mk_bytes ba_ext below_draws on list_full list_ne list_none list_nil)
theorem reads_form {b:Nat} {s:ByteArray} {deep:Nat} {w w':World} {g:Got} {e:Ending} (h:Reads b s deep w g e w'): ∃r er,e= .returned (.tuple #[.agg (rawA r),.int .i64 er]):=by
 match g,h with
 | .ok p to,h=>obtain⟨_,r,e,_⟩:=h;exact⟨r,0,e⟩
 | .bad q er,h=>obtain⟨_,_,e,_⟩:=h;exact⟨zeroR,er,e⟩
theorem reads_more {b c:Nat} {s:ByteArray} {deep:Nat} {w w1 w' w'':World} {g:Got} {e:Ending} (h:Reads b s deep w1 g e w') (l:Below w.heap.size w w1) (k:Beside c w' w'') (h1:w.heap.size≤c) (h2:c<w1.heap.size) (hb:b≠c):Reads b s deep w g e w'':=by
 refine⟨beside_fresh ((Beside.of l).trans h.1) k h1,?_⟩
 match g,h with
 | .ok p to,h=>
  obtain⟨_,r,e,hr,hp⟩:=h
  exact⟨r,e,hr.beside k hb,(hp.by_beside k h2).by_less l.size⟩
 | .bad q er,h=>
  obtain⟨_,he,e,d,hr⟩:=h
  exact⟨he,e,d,hr.beside k hb⟩
def AtomOk (R:Nat→Nat→Option Got) (s:ByteArray) (at_ deep:Nat):Prop:=
 ∃g,atom R s.data.toList at_ deep=some g∧Fine s.data.toList (at_+1) g∧ ∀w b,Reader w b s at_ deep→Calls Tryz.prog 96 #[.pointer (some ⟨b,0,none⟩)] w (Reads b s deep w g)
section
variable {w:World} {b:Nat} {s:ByteArray} {at_ deep:Nat}
theorem atom_brackets (h:Reader w b s at_ deep) (hat:at_<s.size) (hs:s.size≤900) (h40:s[at_]=40) {g:Got}
    (hC: ∀w b,Reader w b s at_ deep→Calls Tryz.prog 111 #[.pointer (some ⟨b,0,none⟩)] w (Reads b s deep w g)):
    Calls Tryz.prog 96 #[.pointer (some ⟨b,0,none⟩)] w (Reads b s deep w g):=by
 have hlt:=h.lt
 have H:=hid h
 have h1:(at_:Int)≤(s.size:Int):=by omega
 have hz:(s.extract at_ s.size).size=s.size-at_:=by rw[ByteArray.size_extract];omega
 have hz0:0<(s.extract at_ s.size).size:=by omega
 have hz1:(1:Int)≤((s.extract at_ s.size).size:Int):=by omega
 have hz2:(0:Int)<((s.extract at_ s.size).size:Int):=by omega
 have hcc:(s.extract at_ s.size)[0]=s[at_]:=by
  have:=Kit.byte_get (s.extract at_ s.size) 0 hz0
  rw[Kit.drop_bytes,Kit.drop_next s at_ hat]at this
  exact this.symm
 have hw1:wrap64 ((at_:Int)+1)=((at_+1:Nat):Int):=by unfold wrap64;omega
 have t40:(((s.extract at_ s.size)[0].toNat:Int)==40)=true:=by rw[hcc];exact u8y h40
 have HC:=hid hC
 clear hC hcc hw1 h40
 clear h
 go_enter Tryz.func96,Tryz.ntmps96
 go_wp2_with (first|(refine alloc_piece rfl rfl ?_;intro w1 b1 e1 p1 l1 z1))
 have H1:=hid (H.out.below l1)
 have P1:=hid p1
 have L1:=hid l1
 have c0:=H1.out.c0
 have c1:=H1.out.c1
 clear p1 l1
 go_quiet (fail)
 have P2:Hid (PBox (w1.drewN nq) b1 zeroR):=P1
 have H2:Hid (Reader (w1.drewN nq) b s at_ deep):=H1
 have L2:=hid (L1.out.trans ((below_draws w1 nq).mono L1.out.size))
 have hzz:w1.heap.size≤(w1.drewN nq).heap.size:=Nat.le_refl _
 have d1:=H2.out.c1
 have f1:=H2.out.free 1
 have hne:b1≠b:=by omega
 generalize w1.drewN nq=w2 at*
 go_wp2_with fail
 refine(HC.out _ _ H2.out).mono ?_
 rintro e w3 hr
 obtain⟨r,er,rfl⟩:=reads_form hr
 have R3:=hid hr
 have P3:=hid (P2.out.beside hr.1 hne)
 clear hr
 go_wp2_with (first|(refine store_piece (r:=r) rfl (.tmp 2) (.tmp 20) rfl rfl rfl P3.out ?_;intro w4 p4 l4 z4))
 refine end_piece2 rfl rfl p4 rfl ?_
 exact reads_more R3.out L2.out l4 (by omega) (by omega) hne.symm
theorem atom_set (h:Reader w b s at_ deep) (hat:at_<s.size) (hs:s.size≤900) (h40: ¬s[at_]=40) (h91:s[at_]=91) {g:Got}
    (hC: ∀w b,Reader w b s at_ deep→Calls Tryz.prog 112 #[.pointer (some ⟨b,0,none⟩)] w (Reads b s deep w g)):
    Calls Tryz.prog 96 #[.pointer (some ⟨b,0,none⟩)] w (Reads b s deep w g):=by
 have hlt:=h.lt
 have H:=hid h
 have h1:(at_:Int)≤(s.size:Int):=by omega
 have hz:(s.extract at_ s.size).size=s.size-at_:=by rw[ByteArray.size_extract];omega
 have hz0:0<(s.extract at_ s.size).size:=by omega
 have hz1:(1:Int)≤((s.extract at_ s.size).size:Int):=by omega
 have hz2:(0:Int)<((s.extract at_ s.size).size:Int):=by omega
 have hcc:(s.extract at_ s.size)[0]=s[at_]:=by
  have:=Kit.byte_get (s.extract at_ s.size) 0 hz0
  rw[Kit.drop_bytes,Kit.drop_next s at_ hat]at this
  exact this.symm
 have hw1:wrap64 ((at_:Int)+1)=((at_+1:Nat):Int):=by unfold wrap64;omega
 have t40:(((s.extract at_ s.size)[0].toNat:Int)==40)=false:=by rw[hcc];exact u8n h40
 have t91:(((s.extract at_ s.size)[0].toNat:Int)==91)=true:=by rw[hcc];exact u8y h91
 have HC:=hid hC
 clear hC hcc hw1 h40 h91
 clear h
 go_enter Tryz.func96,Tryz.ntmps96
 go_wp2_with (first|(refine alloc_piece rfl rfl ?_;intro w1 b1 e1 p1 l1 z1))
 have H1:=hid (H.out.below l1)
 have P1:=hid p1
 have L1:=hid l1
 have c0:=H1.out.c0
 have c1:=H1.out.c1
 clear p1 l1
 go_quiet (fail)
 have P2:Hid (PBox (w1.drewN nq) b1 zeroR):=P1
 have H2:Hid (Reader (w1.drewN nq) b s at_ deep):=H1
 have L2:=hid (L1.out.trans ((below_draws w1 nq).mono L1.out.size))
 have hzz:w1.heap.size≤(w1.drewN nq).heap.size:=Nat.le_refl _
 have d1:=H2.out.c1
 have f1:=H2.out.free 1
 have hne:b1≠b:=by omega
 generalize w1.drewN nq=w2 at*
 go_wp2_with fail
 refine(HC.out _ _ H2.out).mono ?_
 rintro e w3 hr
 obtain⟨r,er,rfl⟩:=reads_form hr
 have R3:=hid hr
 have P3:=hid (P2.out.beside hr.1 hne)
 clear hr
 go_wp2_with (first|(refine store_piece (r:=r) rfl (.tmp 2) (.tmp 26) rfl rfl rfl P3.out ?_;intro w4 p4 l4 z4))
 refine end_piece2 rfl rfl p4 rfl ?_
 exact reads_more R3.out L2.out l4 (by omega) (by omega) hne.symm
theorem atom_escaped (h:Reader w b s at_ deep) (hat:at_<s.size) (hs:s.size≤900) (h40: ¬s[at_]=40) (h91: ¬s[at_]=91) (h92:s[at_]=92) {g:Got}
    (hC: ∀w b,Reader w b s at_ deep→Calls Tryz.prog 113 #[.pointer (some ⟨b,0,none⟩)] w (Reads b s deep w g)):
    Calls Tryz.prog 96 #[.pointer (some ⟨b,0,none⟩)] w (Reads b s deep w g):=by
 have hlt:=h.lt
 have H:=hid h
 have h1:(at_:Int)≤(s.size:Int):=by omega
 have hz:(s.extract at_ s.size).size=s.size-at_:=by rw[ByteArray.size_extract];omega
 have hz0:0<(s.extract at_ s.size).size:=by omega
 have hz1:(1:Int)≤((s.extract at_ s.size).size:Int):=by omega
 have hz2:(0:Int)<((s.extract at_ s.size).size:Int):=by omega
 have hcc:(s.extract at_ s.size)[0]=s[at_]:=by
  have:=Kit.byte_get (s.extract at_ s.size) 0 hz0
  rw[Kit.drop_bytes,Kit.drop_next s at_ hat]at this
  exact this.symm
 have hw1:wrap64 ((at_:Int)+1)=((at_+1:Nat):Int):=by unfold wrap64;omega
 have t40:(((s.extract at_ s.size)[0].toNat:Int)==40)=false:=by rw[hcc];exact u8n h40
 have t91:(((s.extract at_ s.size)[0].toNat:Int)==91)=false:=by rw[hcc];exact u8n h91
 have t92:(((s.extract at_ s.size)[0].toNat:Int)==92)=true:=by rw[hcc];exact u8y h92
 have HC:=hid hC
 clear hC hcc hw1 h40 h91 h92
 clear h
 go_enter Tryz.func96,Tryz.ntmps96
 go_wp2_with (first|(refine alloc_piece rfl rfl ?_;intro w1 b1 e1 p1 l1 z1))
 have H1:=hid (H.out.below l1)
 have P1:=hid p1
 have L1:=hid l1
 have c0:=H1.out.c0
 have c1:=H1.out.c1
 clear p1 l1
 go_quiet (fail)
 have P2:Hid (PBox (w1.drewN nq) b1 zeroR):=P1
 have H2:Hid (Reader (w1.drewN nq) b s at_ deep):=H1
 have L2:=hid (L1.out.trans ((below_draws w1 nq).mono L1.out.size))
 have hzz:w1.heap.size≤(w1.drewN nq).heap.size:=Nat.le_refl _
 have d1:=H2.out.c1
 have f1:=H2.out.free 1
 have hne:b1≠b:=by omega
 generalize w1.drewN nq=w2 at*
 go_wp2_with fail
 refine(HC.out _ _ H2.out).mono ?_
 rintro e w3 hr
 obtain⟨r,er,rfl⟩:=reads_form hr
 have R3:=hid hr
 have P3:=hid (P2.out.beside hr.1 hne)
 clear hr
 go_wp2_with (first|(refine store_piece (r:=r) rfl (.tmp 2) (.tmp 32) rfl rfl rfl P3.out ?_;intro w4 p4 l4 z4))
 refine end_piece2 rfl rfl p4 rfl ?_
 exact reads_more R3.out L2.out l4 (by omega) (by omega) hne.symm
theorem atom_point (h:Reader w b s at_ deep) (hat:at_<s.size) (hs:s.size≤900) (h40: ¬s[at_]=40) (h91: ¬s[at_]=91) (h92: ¬s[at_]=92) (h46:s[at_]=46):
    Calls Tryz.prog 96 #[.pointer (some ⟨b,0,none⟩)] w (Reads b s deep w (.ok (leaf 3 ⟨#[]⟩) (at_+1))):=by
 have hlt:=h.lt
 have H:=hid h
 have h1:(at_:Int)≤(s.size:Int):=by omega
 have hz:(s.extract at_ s.size).size=s.size-at_:=by rw[ByteArray.size_extract];omega
 have hz0:0<(s.extract at_ s.size).size:=by omega
 have hz1:(1:Int)≤((s.extract at_ s.size).size:Int):=by omega
 have hz2:(0:Int)<((s.extract at_ s.size).size:Int):=by omega
 have hcc:(s.extract at_ s.size)[0]=s[at_]:=by
  have:=Kit.byte_get (s.extract at_ s.size) 0 hz0
  rw[Kit.drop_bytes,Kit.drop_next s at_ hat]at this
  exact this.symm
 have hw1:wrap64 ((at_:Int)+1)=((at_+1:Nat):Int):=by unfold wrap64;omega
 have t40:(((s.extract at_ s.size)[0].toNat:Int)==40)=false:=by rw[hcc];exact u8n h40
 have t91:(((s.extract at_ s.size)[0].toNat:Int)==91)=false:=by rw[hcc];exact u8n h91
 have t92:(((s.extract at_ s.size)[0].toNat:Int)==92)=false:=by rw[hcc];exact u8n h92
 have t46:(((s.extract at_ s.size)[0].toNat:Int)==46)=true:=by rw[hcc];exact u8y h46
 clear hcc h40 h91 h92 h46
 clear h
 go_enter Tryz.func96,Tryz.ntmps96
 go_wp2_with (first|(refine alloc_piece rfl rfl ?_;intro w1 b1 e1 p1 l1 z1))
 have H1:=hid (H.out.below l1)
 have P1:=hid p1
 have L1:=hid l1
 have c0:=H1.out.c0
 have c1:=H1.out.c1
 clear p1 l1
 go_quiet (fail)
 have P2:Hid (PBox (w1.drewN nq) b1 zeroR):=P1
 have H2:Hid (Reader (w1.drewN nq) b s at_ deep):=H1
 have L2:=hid (L1.out.trans ((below_draws w1 nq).mono L1.out.size))
 have hzz:w1.heap.size≤(w1.drewN nq).heap.size:=Nat.le_refl _
 have d1:=H2.out.c1
 have f1:=H2.out.free 1
 have hne:b1≠b:=by omega
 generalize w1.drewN nq=w2 at*
 go_wp2_with (first|(refine store_piece (r:=⟨3,⟨#[]⟩,none,0,0,0,0⟩) rfl (.tmp 2) (.tmp 45) rfl rfl rfl (PBox.beside P2.out (beside_put _ _ _ _) hne) ?_;intro w4 p4 l4 z4))
 refine end_piece2 rfl rfl p4 rfl ?_
 have B:=beside_fresh ((Beside.of (b:=b) L2.out).trans (beside_put w2 b 1 (.int .i64 ((at_+1:Nat):Int)))) l4 (by omega)
 exact⟨B,_,rfl,(H2.out.put1 (at_+1)).beside l4 hne.symm,PAt.leaf _ _ 3 _⟩
theorem atom_begin (h:Reader w b s at_ deep) (hat:at_<s.size) (hs:s.size≤900) (h40: ¬s[at_]=40) (h91: ¬s[at_]=91) (h92: ¬s[at_]=92) (h46: ¬s[at_]=46) (h94:s[at_]=94):
    Calls Tryz.prog 96 #[.pointer (some ⟨b,0,none⟩)] w (Reads b s deep w (.ok (leaf 5 ⟨#[]⟩) (at_+1))):=by
 have hlt:=h.lt
 have H:=hid h
 have h1:(at_:Int)≤(s.size:Int):=by omega
 have hz:(s.extract at_ s.size).size=s.size-at_:=by rw[ByteArray.size_extract];omega
 have hz0:0<(s.extract at_ s.size).size:=by omega
 have hz1:(1:Int)≤((s.extract at_ s.size).size:Int):=by omega
 have hz2:(0:Int)<((s.extract at_ s.size).size:Int):=by omega
 have hcc:(s.extract at_ s.size)[0]=s[at_]:=by
  have:=Kit.byte_get (s.extract at_ s.size) 0 hz0
  rw[Kit.drop_bytes,Kit.drop_next s at_ hat]at this
  exact this.symm
 have hw1:wrap64 ((at_:Int)+1)=((at_+1:Nat):Int):=by unfold wrap64;omega
 have t40:(((s.extract at_ s.size)[0].toNat:Int)==40)=false:=by rw[hcc];exact u8n h40
 have t91:(((s.extract at_ s.size)[0].toNat:Int)==91)=false:=by rw[hcc];exact u8n h91
 have t92:(((s.extract at_ s.size)[0].toNat:Int)==92)=false:=by rw[hcc];exact u8n h92
 have t46:(((s.extract at_ s.size)[0].toNat:Int)==46)=false:=by rw[hcc];exact u8n h46
 have t94:(((s.extract at_ s.size)[0].toNat:Int)==94)=true:=by rw[hcc];exact u8y h94
 clear hcc h40 h91 h92 h46 h94
 clear h
 go_enter Tryz.func96,Tryz.ntmps96
 go_wp2_with (first|(refine alloc_piece rfl rfl ?_;intro w1 b1 e1 p1 l1 z1))
 have H1:=hid (H.out.below l1)
 have P1:=hid p1
 have L1:=hid l1
 have c0:=H1.out.c0
 have c1:=H1.out.c1
 clear p1 l1
 go_quiet (fail)
 have P2:Hid (PBox (w1.drewN nq) b1 zeroR):=P1
 have H2:Hid (Reader (w1.drewN nq) b s at_ deep):=H1
 have L2:=hid (L1.out.trans ((below_draws w1 nq).mono L1.out.size))
 have hzz:w1.heap.size≤(w1.drewN nq).heap.size:=Nat.le_refl _
 have d1:=H2.out.c1
 have f1:=H2.out.free 1
 have hne:b1≠b:=by omega
 generalize w1.drewN nq=w2 at*
 go_wp2_with (first|(refine store_piece (r:=⟨5,⟨#[]⟩,none,0,0,0,0⟩) rfl (.tmp 2) (.tmp 48) rfl rfl rfl (PBox.beside P2.out (beside_put _ _ _ _) hne) ?_;intro w4 p4 l4 z4))
 refine end_piece2 rfl rfl p4 rfl ?_
 have B:=beside_fresh ((Beside.of (b:=b) L2.out).trans (beside_put w2 b 1 (.int .i64 ((at_+1:Nat):Int)))) l4 (by omega)
 exact⟨B,_,rfl,(H2.out.put1 (at_+1)).beside l4 hne.symm,PAt.leaf _ _ 5 _⟩
theorem atom_end (h:Reader w b s at_ deep) (hat:at_<s.size) (hs:s.size≤900) (h40: ¬s[at_]=40) (h91: ¬s[at_]=91) (h92: ¬s[at_]=92) (h46: ¬s[at_]=46) (h94: ¬s[at_]=94) (h36:s[at_]=36):
    Calls Tryz.prog 96 #[.pointer (some ⟨b,0,none⟩)] w (Reads b s deep w (.ok (leaf 6 ⟨#[]⟩) (at_+1))):=by
 have hlt:=h.lt
 have H:=hid h
 have h1:(at_:Int)≤(s.size:Int):=by omega
 have hz:(s.extract at_ s.size).size=s.size-at_:=by rw[ByteArray.size_extract];omega
 have hz0:0<(s.extract at_ s.size).size:=by omega
 have hz1:(1:Int)≤((s.extract at_ s.size).size:Int):=by omega
 have hz2:(0:Int)<((s.extract at_ s.size).size:Int):=by omega
 have hcc:(s.extract at_ s.size)[0]=s[at_]:=by
  have:=Kit.byte_get (s.extract at_ s.size) 0 hz0
  rw[Kit.drop_bytes,Kit.drop_next s at_ hat]at this
  exact this.symm
 have hw1:wrap64 ((at_:Int)+1)=((at_+1:Nat):Int):=by unfold wrap64;omega
 have t40:(((s.extract at_ s.size)[0].toNat:Int)==40)=false:=by rw[hcc];exact u8n h40
 have t91:(((s.extract at_ s.size)[0].toNat:Int)==91)=false:=by rw[hcc];exact u8n h91
 have t92:(((s.extract at_ s.size)[0].toNat:Int)==92)=false:=by rw[hcc];exact u8n h92
 have t46:(((s.extract at_ s.size)[0].toNat:Int)==46)=false:=by rw[hcc];exact u8n h46
 have t94:(((s.extract at_ s.size)[0].toNat:Int)==94)=false:=by rw[hcc];exact u8n h94
 have t36:(((s.extract at_ s.size)[0].toNat:Int)==36)=true:=by rw[hcc];exact u8y h36
 clear hcc h40 h91 h92 h46 h94 h36
 clear h
 go_enter Tryz.func96,Tryz.ntmps96
 go_wp2_with (first|(refine alloc_piece rfl rfl ?_;intro w1 b1 e1 p1 l1 z1))
 have H1:=hid (H.out.below l1)
 have P1:=hid p1
 have L1:=hid l1
 have c0:=H1.out.c0
 have c1:=H1.out.c1
 clear p1 l1
 go_quiet (fail)
 have P2:Hid (PBox (w1.drewN nq) b1 zeroR):=P1
 have H2:Hid (Reader (w1.drewN nq) b s at_ deep):=H1
 have L2:=hid (L1.out.trans ((below_draws w1 nq).mono L1.out.size))
 have hzz:w1.heap.size≤(w1.drewN nq).heap.size:=Nat.le_refl _
 have d1:=H2.out.c1
 have f1:=H2.out.free 1
 have hne:b1≠b:=by omega
 generalize w1.drewN nq=w2 at*
 go_wp2_with (first|(refine store_piece (r:=⟨6,⟨#[]⟩,none,0,0,0,0⟩) rfl (.tmp 2) (.tmp 51) rfl rfl rfl (PBox.beside P2.out (beside_put _ _ _ _) hne) ?_;intro w4 p4 l4 z4))
 refine end_piece2 rfl rfl p4 rfl ?_
 have B:=beside_fresh ((Beside.of (b:=b) L2.out).trans (beside_put w2 b 1 (.int .i64 ((at_+1:Nat):Int)))) l4 (by omega)
 exact⟨B,_,rfl,(H2.out.put1 (at_+1)).beside l4 hne.symm,PAt.leaf _ _ 6 _⟩
theorem atom_char (h:Reader w b s at_ deep) (hat:at_<s.size) (hs:s.size≤900) (h40: ¬s[at_]=40) (h91: ¬s[at_]=91) (h92: ¬s[at_]=92) (h46: ¬s[at_]=46) (h94: ¬s[at_]=94) (h36: ¬s[at_]=36):
    Calls Tryz.prog 96 #[.pointer (some ⟨b,0,none⟩)] w (Reads b s deep w (.ok (leaf 2 (chr s[at_])) (at_+1))):=by
 have hlt:=h.lt
 have H:=hid h
 have h1:(at_:Int)≤(s.size:Int):=by omega
 have hz:(s.extract at_ s.size).size=s.size-at_:=by rw[ByteArray.size_extract];omega
 have hz0:0<(s.extract at_ s.size).size:=by omega
 have hz1:(1:Int)≤((s.extract at_ s.size).size:Int):=by omega
 have hz2:(0:Int)<((s.extract at_ s.size).size:Int):=by omega
 have hcc:(s.extract at_ s.size)[0]=s[at_]:=by
  have:=Kit.byte_get (s.extract at_ s.size) 0 hz0
  rw[Kit.drop_bytes,Kit.drop_next s at_ hat]at this
  exact this.symm
 have hw1:wrap64 ((at_:Int)+1)=((at_+1:Nat):Int):=by unfold wrap64;omega
 have t40:(((s.extract at_ s.size)[0].toNat:Int)==40)=false:=by rw[hcc];exact u8n h40
 have t91:(((s.extract at_ s.size)[0].toNat:Int)==91)=false:=by rw[hcc];exact u8n h91
 have t92:(((s.extract at_ s.size)[0].toNat:Int)==92)=false:=by rw[hcc];exact u8n h92
 have t46:(((s.extract at_ s.size)[0].toNat:Int)==46)=false:=by rw[hcc];exact u8n h46
 have t94:(((s.extract at_ s.size)[0].toNat:Int)==94)=false:=by rw[hcc];exact u8n h94
 have t36:(((s.extract at_ s.size)[0].toNat:Int)==36)=false:=by rw[hcc];exact u8n h36
 have HCH:=hid (chr_at hat)
 clear hcc h40 h91 h92 h46 h94 h36
 clear h
 go_enter Tryz.func96,Tryz.ntmps96
 go_wp2_with (first|(refine alloc_piece rfl rfl ?_;intro w1 b1 e1 p1 l1 z1))
 have H1:=hid (H.out.below l1)
 have P1:=hid p1
 have L1:=hid l1
 have c0:=H1.out.c0
 have c1:=H1.out.c1
 clear p1 l1
 go_quiet (fail)
 have P2:Hid (PBox (w1.drewN nq) b1 zeroR):=P1
 have H2:Hid (Reader (w1.drewN nq) b s at_ deep):=H1
 have L2:=hid (L1.out.trans ((below_draws w1 nq).mono L1.out.size))
 have hzz:w1.heap.size≤(w1.drewN nq).heap.size:=Nat.le_refl _
 have d1:=H2.out.c1
 have f1:=H2.out.free 1
 have hne:b1≠b:=by omega
 generalize w1.drewN nq=w2 at*
 go_wp2_with (first|(refine store_piece (r:=⟨2,(s.extract at_ s.size).extract 0 1,none,0,0,0,0⟩) rfl (.tmp 2) (.tmp 54) rfl rfl rfl (PBox.beside P2.out (beside_put _ _ _ _) hne) ?_;intro w4 p4 l4 z4))
 refine end_piece2 rfl rfl p4 rfl ?_
 have B:=beside_fresh ((Beside.of (b:=b) L2.out).trans (beside_put w2 b 1 (.int .i64 ((at_+1:Nat):Int)))) l4 (by omega)
 rw[HCH.out]
 exact⟨B,_,rfl,(H2.out.put1 (at_+1)).beside l4 hne.symm,PAt.leaf _ _ 2 _⟩
theorem atom_is40 {R:Nat→Nat→Option Got} {S:List UInt8} (h:S.getD at_ 0=40) (hR:deep≠64→ ∃g,R (at_+1) (deep+1)=some g):atom R S at_ deep=some (bracketsR R S at_ deep):=by
 unfold atom bracketsR
 rw[if_pos h]
 by_cases h64:deep=64
 ·rw[if_pos h64,if_pos h64]
 ·rw[if_neg h64,if_neg h64]
  obtain⟨g,e⟩:=hR h64
  rw[e]
  cases g with
  |bad q er=>rfl
  |ok p to=>
   simp only
   by_cases ht:to=S.length
   ·rw[if_pos ht,if_pos ht]
   ·rw[if_neg ht,if_neg ht]
theorem atom_is91 {R:Nat→Nat→Option Got} {S:List UInt8} (h:S.getD at_ 0=91):atom R S at_ deep=some (if(M13.parse (S.drop at_)).2.2≠0 then .bad at_ (M13.parse (S.drop at_)).2.2 else .ok (leaf 4 (txt (M13.parse (S.drop at_)).1)) (at_+(M13.parse (S.drop at_)).2.1)):=by
 unfold atom
 rw[if_neg (by rw[h];decide),if_pos h]
 split<;>rfl
theorem atom_is92 {R:Nat→Nat→Option Got} {S:List UInt8} (h:S.getD at_ 0=92):atom R S at_ deep=some (escapedR S at_):=by
 unfold atom escapedR
 rw[h,if_neg (by decide),if_neg (by decide),if_neg (by decide),if_neg (by decide),if_neg (by decide),if_neg (by decide),if_neg (by decide)]
 split
 ·rfl
 ·split<;>rfl
theorem atom_any {R:Nat→Nat→Option Got} (hR:PatOk s R (at_+1)) (hat:at_<s.size) (hs:s.size≤900) (hd:deep≤64) (h42: ¬s[at_]=42) (h43: ¬s[at_]=43) (h63: ¬s[at_]=63) (h123: ¬s[at_]=123):AtomOk R s at_ deep:=by
 have hlen:s.data.toList.length=s.size:=(Lib.size_eq s).symm
 have hc:s.data.toList.getD at_ 0=s[at_]:=Kit.byte_get s at_ hat
 have hg:deep≠64→at_+1≤s.data.toList.length→ ∃g,R (at_+1) (deep+1)=some g∧Fine s.data.toList (at_+1) g:=fun h q=>by
  obtain⟨g,e,hf,-⟩:=hR (at_+1) (deep+1) (Nat.le_refl _) (by omega) (by omega)
  exact⟨g,e,hf⟩
 obtain⟨g,e,hf⟩:=atom_fine (R:=R) (deep:=deep) (S:=s.data.toList) (at_:=at_) (by omega) hg
 refine⟨g,e,hf,fun w b h=> ?_⟩
 by_cases h40:s[at_]=40
 ·rw[atom_is40 (by rw[hc];exact h40) (fun q=>by obtain⟨g,e,-⟩:=hg q (by omega);exact⟨g,e⟩)]at e
  injection e with e
  subst e
  exact atom_brackets h hat hs h40 fun w b h=>brackets_any hR hat hs hd h
 ·by_cases h91:s[at_]=91
  ·rw[atom_is91 (by rw[hc];exact h91)]at e
   injection e with e
   subst e
   exact atom_set h hat hs h40 h91 fun w b h=>set_any h hat hs
  ·by_cases h92:s[at_]=92
   ·rw[atom_is92 (by rw[hc];exact h92)]at e
    injection e with e
    subst e
    exact atom_escaped h hat hs h40 h91 h92 fun w b h=>escaped_any h hat hs
   ·unfold atom at e
    rw[hc,if_neg h40,if_neg h91]at e
    by_cases h46:s[at_]=46
    ·rw[if_pos h46]at e
     injection e with e
     subst e
     exact atom_point h hat hs h40 h91 h92 h46
    ·rw[if_neg h46]at e
     by_cases h94:s[at_]=94
     ·rw[if_pos h94]at e
      injection e with e
      subst e
      exact atom_begin h hat hs h40 h91 h92 h46 h94
     ·rw[if_neg h94]at e
      by_cases h36:s[at_]=36
      ·rw[if_pos h36]at e
       injection e with e
       subst e
       exact atom_end h hat hs h40 h91 h92 h46 h94 h36
      ·rw[if_neg h36,if_neg (by rintro(q|q|q|q)<;>contradiction),if_pos h92]at e
       injection e with e
       subst e
       exact atom_char h hat hs h40 h91 h92 h46 h94 h36
end
end W14
end Go.Proofs.YtehdnbidgphecaaGreatDoor
