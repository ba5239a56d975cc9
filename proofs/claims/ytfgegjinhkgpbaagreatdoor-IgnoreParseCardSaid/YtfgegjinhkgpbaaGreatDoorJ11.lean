/-
  Texts joined, in build order, each with its own comment and its own conditions: W15Whole, W14RefSize, W14RefRep, W15GSize, W15RefSeq.
-/
import Derived.Test.YtfgegjinhkgpbaaGreatDoorTake
import Derived.Test.YtfgegjinhkgpbaaGreatDoorJ10
import Derived.Test.YtfgegjinhkgpbaaGreatDoorJ04
import Derived.Deep.LoopGhost
import Derived.Deep.RegionHeld3
import Derived.Lib.MinMax
import Derived.Test.YtfgegjinhkgpbaaGreatDoorJ08
import Derived.Deep.Onto
namespace Go.Proofs.YtfgegjinhkgpbaaGreatDoor
set_option maxHeartbeats 4000000
set_option maxRecDepth 100000
open Go.RowKit
open Lib (hid)
namespace EH
open Strs Al Bv
open Ew (good has)
open Cj (Piece)
open W14 (Raw Ak Co DF Ad Be AV AU Aq AO)
open Kit (below_draws on)
def JP (f:Nat) (r:Raw) (v:Bool):Prop:= ∀w,Calls Tryz.prog f #[.agg (Ak r)] w fun e w'=>e= .returned (.bool v)/\Below w.heap.size w w'
theorem XU (k:Int) (t:ByteArray) (A:Option Addr) (n c:Nat) (m tp:Int) (hc:n<=c/\c<=9223372036854775807):JP 48 ⟨k,t,A,n,c,m,tp⟩ (ZG t n m tp):=by
 intro w
 have hc1:=hc.1
 have hc2:=hc.2
 clear hc
 unfold ZG
 by_cases h1:n=1
 ·rw[decide_eq_true h1]
  subst h1
  by_cases h2:t.size=0
  ·rw[decide_eq_true h2]
   have te:=Kit.Az (s:=t) (by omega)
   have qI:=Kit.Bb (s:=t) (by omega)
   clear h2
   by_cases h3:0<=m
   ·rw[decide_eq_true h3]
    have x1: ¬m<0:=by omega
    by_cases h4:m<=100
    ·rw[decide_eq_true h4]
     have x2: ¬100<m:=by omega
     by_cases h5:tp<=100
     ·rw[decide_eq_true h5]
      have x3: ¬100<tp:=by omega
      clear h3 h4 h5
      by_cases h6:tp= -1
      ·rw[decide_eq_true h6]
       subst h6
       go_enter Tryz.func48,Tryz.ntmps48
       go_wp2_with (first
        |(refine AV (r:=⟨k,t,A,1,c,m,-1⟩) rfl (.tmp 0) rfl rfl ?_;intro w1 b1 e1 p1 l1 z1;have a1:=p1.c1;have a2:=p1.c2;have a3:=p1.c3;have a4:=p1.c4;have L1:=hid l1;clear e1 p1 l1 z1;simp only at a1 a2 a3 a4))
       go_ret
       exact⟨rfl,L1.out⟩
      rw[decide_eq_false h6]
      have x4:(tp== -1)=false:=by simpa using h6
      clear h6
      by_cases h7:m<=tp
      ·rw[decide_eq_true h7]
       go_enter Tryz.func48,Tryz.ntmps48
       go_wp2_with (first
        |(refine AV (r:=⟨k,t,A,1,c,m,tp⟩) rfl (.tmp 0) rfl rfl ?_;intro w1 b1 e1 p1 l1 z1;have a1:=p1.c1;have a2:=p1.c2;have a3:=p1.c3;have a4:=p1.c4;have L1:=hid l1;clear e1 p1 l1 z1;simp only at a1 a2 a3 a4))
       go_ret
       exact⟨rfl,L1.out⟩
      rw[decide_eq_false h7]
      go_enter Tryz.func48,Tryz.ntmps48
      go_wp2_with (first
       |(refine AV (r:=⟨k,t,A,1,c,m,tp⟩) rfl (.tmp 0) rfl rfl ?_;intro w1 b1 e1 p1 l1 z1;have a1:=p1.c1;have a2:=p1.c2;have a3:=p1.c3;have a4:=p1.c4;have L1:=hid l1;clear e1 p1 l1 z1;simp only at a1 a2 a3 a4))
      go_ret
      exact⟨rfl,L1.out⟩
     rw[decide_eq_false h5]
     have x3:100<tp:=by omega
     clear h3 h4 h5
     rw[show(true&&true&&true&&true&&false&&(decide (tp= -1)||decide (m<=tp)))=false from rfl]
     go_enter Tryz.func48,Tryz.ntmps48
     go_wp2_with (first
      |(refine AV (r:=⟨k,t,A,1,c,m,tp⟩) rfl (.tmp 0) rfl rfl ?_;intro w1 b1 e1 p1 l1 z1;have a1:=p1.c1;have a2:=p1.c2;have a3:=p1.c3;have a4:=p1.c4;have L1:=hid l1;clear e1 p1 l1 z1;simp only at a1 a2 a3 a4))
     go_ret
     exact⟨rfl,L1.out⟩
    rw[decide_eq_false h4]
    have x2:100<m:=by omega
    clear h3 h4
    rw[show(true&&true&&true&&false&&decide (tp<=100)&&(decide (tp= -1)||decide (m<=tp)))=false from rfl]
    go_enter Tryz.func48,Tryz.ntmps48
    go_wp2_with (first
     |(refine AV (r:=⟨k,t,A,1,c,m,tp⟩) rfl (.tmp 0) rfl rfl ?_;intro w1 b1 e1 p1 l1 z1;have a1:=p1.c1;have a2:=p1.c2;have a3:=p1.c3;have a4:=p1.c4;have L1:=hid l1;clear e1 p1 l1 z1;simp only at a1 a2 a3 a4))
    go_ret
    exact⟨rfl,L1.out⟩
   rw[decide_eq_false h3]
   have x1:m<0:=by omega
   clear h3
   rw[show(true&&true&&false&&decide (m<=100)&&decide (tp<=100)&&(decide (tp= -1)||decide (m<=tp)))=false from rfl]
   go_enter Tryz.func48,Tryz.ntmps48
   go_wp2_with (first
    |(refine AV (r:=⟨k,t,A,1,c,m,tp⟩) rfl (.tmp 0) rfl rfl ?_;intro w1 b1 e1 p1 l1 z1;have a1:=p1.c1;have a2:=p1.c2;have a3:=p1.c3;have a4:=p1.c4;have L1:=hid l1;clear e1 p1 l1 z1;simp only at a1 a2 a3 a4))
   go_ret
   exact⟨rfl,L1.out⟩
  rw[decide_eq_false h2]
  have te:=Kit.Ap (s:=t) (by omega)
  have qI:=Kit.Bl (s:=t) (by omega)
  clear h2
  rw[show(true&&false&&decide (0<=m)&&decide (m<=100)&&decide (tp<=100)&&(decide (tp= -1)||decide (m<=tp)))=false from rfl]
  go_enter Tryz.func48,Tryz.ntmps48
  go_wp2_with (first
   |(refine AV (r:=⟨k,t,A,1,c,m,tp⟩) rfl (.tmp 0) rfl rfl ?_;intro w1 b1 e1 p1 l1 z1;have a1:=p1.c1;have a2:=p1.c2;have a3:=p1.c3;have a4:=p1.c4;have L1:=hid l1;clear e1 p1 l1 z1;simp only at a1 a2 a3 a4))
  go_ret
  exact⟨rfl,L1.out⟩
 rw[decide_eq_false h1]
 have tn:((n:Int) !=1)=true:=by simp;omega
 clear h1
 rw[show(false&&decide (t.size=0)&&decide (0<=m)&&decide (m<=100)&&decide (tp<=100)&&(decide (tp= -1)||decide (m<=tp)))=false from rfl]
 go_enter Tryz.func48,Tryz.ntmps48
 go_wp2_with (first
  |(refine AV (r:=⟨k,t,A,n,c,m,tp⟩) rfl (.tmp 0) rfl rfl ?_;intro w1 b1 e1 p1 l1 z1;have a1:=p1.c1;have a2:=p1.c2;have a3:=p1.c3;have a4:=p1.c4;have L1:=hid l1;clear e1 p1 l1 z1;simp only at a1 a2 a3 a4))
 go_ret
 exact⟨rfl,L1.out⟩
set_option maxHeartbeats 16000000 in
theorem dM {k:Int} {t:ByteArray} {ks:List Piece} {m tp:Int} (IH: ∀i (hi:i<ks.length) (w:World) (r:Raw),Be w r ks[i]->Calls Tryz.prog 108 #[.agg (Ak r)] w fun e w'=>e= .returned (.bool (Dh ks[i]))/\Below w.heap.size w w') {w:World} {r:Raw} (h:Be w r (.mk k t ks m tp)):
    Calls Tryz.prog 108 #[.agg (Ak r)] w fun e w'=>e= .returned (.bool (Dh (.mk k t ks m tp)))/\Below w.heap.size w w':=by
 rw[FC]
 obtain⟨A,c,Ag,rfl,k1⟩:=h.parts
 have HI:=hid IH
 have HR:=hid k1.room
 have K1:=hid k1
 obtain⟨V,hV⟩: ∃V,(ks.all Dh&&own k t ks.length m tp)=V:=⟨_,rfl⟩
 rw[hV]
 have HV:=hid hV
 have HO:=hid (XU k t A ks.length c m tp k1.room)
 unfold JP at HO
 clear h k1 IH hV
 go_enter Tryz.func108,Tryz.ntmps108
 go_wp2_with (first
  |(refine AV (r:=⟨k,t,A,ks.length,c,m,tp⟩) rfl (.tmp 0) rfl rfl ?_;intro w1 b1 e1 p1 l1 z1;have P1:=hid p1;have L1:=hid l1;clear e1 p1 l1 z1))
 have K1:=hid (K1.out.below L1.out)
 go_loopg [3] ks.length (fun gk s3 wr=> ∃i:Nat,s3= .int .i64 i/\Hid (i+gk=ks.length)/\Hid ((ks.take i).all Dh=true)/\Hid (Ad wr b1 ⟨k,t,A,ks.length,c,m,tp⟩)/\Hid (W14.Kids wr A c Ag ks)/\Hid (Below w.heap.size w wr))
 case atStart=>exact⟨0,rfl,by unfold Hid;omega,by unfold Hid;simp,P1,K1,L1⟩
 case round=>
  obtain⟨i,rfl,hig,XT,P1,K1,HB⟩:=hrel
  have a0:=P1.out.c0
  have a1:=P1.out.c1
  have a2:=P1.out.c2
  have a3:=P1.out.c3
  have a4:=P1.out.c4
  simp only at a0 a1 a2 a3 a4
  have hn1:=HR.out.1
  have hn2:=HR.out.2
  by_cases hi:i<ks.length
  ·have ti:(i:Int)<(ks.length:Int):=by omega
   obtain⟨g1,o1,rfl,C1⟩:=K1.out.at_ (Nat.lt_of_le_of_lt (Nat.zero_le _) hi)
   obtain⟨hr1,q1⟩:=K1.out.kid hi
   have E1:=hid (C1 i hr1)
   obtain⟨rk,Hy⟩: ∃rk,Ag[i]'hr1=rk:=⟨_,rfl⟩
   rw[Hy]at E1 q1
   have HC:=hid (HI.out i hi wr rk q1)
   have wN:=hid (XR (f:=Dh) hi)
   have Q_:=hid (fun q=>jE (f:=Dh) hi q)
   obtain⟨q,hq⟩: ∃q,Dh (ks[i]'hi)=q:=⟨_,rfl⟩
   rw[hq]at HC wN Q_
   have HI2:=hid hi
   have DT:Hid (wrap64 ((i:Int)+1)=((i+1:Nat):Int)):=by unfold Hid wrap64;omega
   clear C1 q1 Hy hq hi a0 a1 a3 a4
   go_wp2_with (first|(refine Aq rfl (.tmp 14) rfl rfl (r:=rk) E1.out ?_))
   refine HC.out.mono ?_
   rintro e w2 ⟨rfl,l2⟩
   have P2:=hid (P1.out.below l2)
   have K2:=hid (K1.out.below l2)
   have B2:=hid (HB.out.trans (l2.mono HB.out.size))
   clear l2 a2
   cases q with
   |false=>
    go_wp2_with fail
    go_ret
    exact⟨by rw[<-HV.out,Q_.out (by first|rfl|trivial),Bool.false_and];rfl,B2.out⟩
   |true=>
    cases gk with
    |zero=>exact absurd hig.out (by have:=HI2.out;omega)
    |succ g=>
     go_wp2_with fail
     go_roundg g
     case measure=>omega
     case rel=>exact⟨i+1,by first|rfl|exact congrArg (Value.int .i64) DT.out,by have:=hig.out;unfold Hid;omega,by unfold Hid;rw[wN.out,XT.out];rfl,P2,K2,B2⟩
  have ti: ¬(i:Int)<(ks.length:Int):=by omega
  have hie:i=ks.length:=by have:=hig.out;omega
  have uq:Hid (V=own k t ks.length m tp):=by
   have:=XT.out
   rw[hie,List.take_length]at this
   unfold Hid
   rw[<-HV.out,this,Bool.true_and]
  clear hie hi
  obtain⟨n,hn⟩: ∃n,ks.length=n:=⟨_,rfl⟩
  rw[hn]at uq HO a2 ti hn1 P1 ⊢
  clear hn
  by_cases h9:k=9
  ·have t9:(k==9)=true:=by simp[h9]
   have HW:Hid (V=ZG t n m tp):=by unfold Hid;rw[uq.out];unfold own;rw[if_pos h9]
   clear h9
   go_wp2_with (first|(refine AU (r:=⟨k,t,A,n,c,m,tp⟩) rfl (.tmp 1) rfl rfl P1.out ?_))
   refine(HO.out _).mono ?_
   rintro e w2 ⟨rfl,l2⟩
   have B2:=hid (HB.out.trans (l2.mono HB.out.size))
   clear l2
   go_wp2_with fail
   go_ret
   exact⟨by rw[HW.out];rfl,B2.out⟩
  have t9:(k==9)=false:=by simpa using h9
  by_cases hm:m=0
  ·have tm:(m !=0)=false:=by simp[hm]
   by_cases htp:tp=0
   ·have tt:(tp !=0)=false:=by simp[htp]
    have HW:Hid (V=if k=7\/k=8 then decide (1<n)&&decide (t.size=0)else decide (n=0)&&(if k=2 then decide (t.size=1)else if k=4 then good t.data.toList else decide (t.size=0)&&decide (k=1\/k=3\/k=5\/k=6))):=by
     unfold Hid;rw[uq.out];unfold own;rw[if_neg h9,decide_eq_true hm,decide_eq_true htp,Bool.true_and,Bool.true_and]
    clear hm htp h9
    by_cases h7:k=7\/k=8
    ·rw[if_pos h7]at HW
     by_cases hz1:1<n
     ·rw[decide_eq_true hz1,Bool.true_and]at HW
      have tn:(1:Int)<(n:Int):=by omega
      clear hz1
      by_cases hz:t.size=0
      ·rw[decide_eq_true hz]at HW
       have te:=Kit.Az (s:=t) (by omega)
       have qI:=Kit.Bb (s:=t) (by omega)
       clear hz
       rcases h7 with h7|h7
       ·have t7:(k==7)=true:=by simp[h7]
        clear h7
        go_wp2_with fail
        go_ret
        exact⟨by rw[HW.out];rfl,HB.out⟩
       have t7:(k==7)=false:=by simp[h7]
       have t8:(k==8)=true:=by simp[h7]
       clear h7
       go_wp2_with fail
       go_ret
       exact⟨by rw[HW.out];rfl,HB.out⟩
      rw[decide_eq_false hz]at HW
      have te:=Kit.Ap (s:=t) (by omega)
      have qI:=Kit.Bl (s:=t) (by omega)
      clear hz
      rcases h7 with h7|h7
      ·have t7:(k==7)=true:=by simp[h7]
       clear h7
       go_wp2_with fail
       go_ret
       exact⟨by rw[HW.out];rfl,HB.out⟩
      have t7:(k==7)=false:=by simp[h7]
      have t8:(k==8)=true:=by simp[h7]
      clear h7
      go_wp2_with fail
      go_ret
      exact⟨by rw[HW.out];rfl,HB.out⟩
     rw[decide_eq_false hz1,Bool.false_and]at HW
     have tn: ¬(1:Int)<(n:Int):=by omega
     clear hz1
     rcases h7 with h7|h7
     ·have t7:(k==7)=true:=by simp[h7]
      clear h7
      go_wp2_with fail
      go_ret
      exact⟨by rw[HW.out];rfl,HB.out⟩
     have t7:(k==7)=false:=by simp[h7]
     have t8:(k==8)=true:=by simp[h7]
     clear h7
     go_wp2_with fail
     go_ret
     exact⟨by rw[HW.out];rfl,HB.out⟩
    rw[if_neg h7]at HW
    have t7:(k==7)=false:=by simp;omega
    have t8:(k==8)=false:=by simp;omega
    clear h7
    by_cases hz0:n=0
    ·rw[decide_eq_true hz0,Bool.true_and]at HW
     have tn: ¬(0:Int)<(n:Int):=by omega
     clear hz0
     by_cases h2:k=2
     ·rw[if_pos h2]at HW
      have t2:(k==2)=true:=by simp[h2]
      clear h2
      by_cases hz:t.size=1
      ·rw[decide_eq_true hz]at HW
       have tz:((t.size:Int)==1)=true:=by simp[hz]
       clear hz
       go_wp2_with fail
       go_ret
       exact⟨by rw[HW.out];rfl,HB.out⟩
      rw[decide_eq_false hz]at HW
      have tz:((t.size:Int)==1)=false:=by simp;omega
      clear hz
      go_wp2_with fail
      go_ret
      exact⟨by rw[HW.out];rfl,HB.out⟩
     rw[if_neg h2]at HW
     have t2:(k==2)=false:=by simpa using h2
     by_cases h4:k=4
     ·rw[if_pos h4]at HW
      have t4:(k==4)=true:=by simp[h4]
      clear h2 h4
      have uG:=fun w=>FD.Mo t t w
      by_cases hz:good t.data.toList=true
      ·rw[hz]at HW
       rw[ZK hz]at uG
       have HU:=hid uG
       have tz:(t.toList==t.toList)=true:=by simp
       clear hz uG
       have D4:=hid (below_draws wr 1)
       go_wp2_with fail
       refine wp_region_held_drew (S:=fun w'=>w'.cell? ⟨b1,1,none⟩=some (.string t)) (by kernel_rfl) P1.out.c1 (fun hHeld=> ?_)
       refine Take.k 0 ⟨some 62,.fieldAddr 56 (.tmp 1) 1,_,_,_,none⟩ ?_
       refine Take.k 1 ⟨some 63,.load 9 (.tmp 62),_,_,_,none⟩ ?_
       refine Take.k 2 ⟨some 64,.fieldAddr 56 (.tmp 1) 1,_,_,_,none⟩ ?_
       refine Take.k 3 ⟨some 65,.load 9 (.tmp 64),_,_,_,none⟩ ?_
       refine Take.k 5 ⟨some 67,.fieldAddr 56 (.tmp 1) 1,_,_,_,none⟩ ?_
       refine Take.k 6 ⟨some 68,.load 9 (.tmp 67),_,_,_,none⟩ ?_
       refine wpAnyH_ready (rs:= [4]) (by kernel_rfl) (by simp) ?_
       refine AllReadyH.cons (o:=⟨some 66,.call ⟨.value (.func 135), #[.tmp 63,.tmp 65], #[9,9]⟩,_,_,_,none⟩) rfl (fun K hK=> ?_) AllReadyH.nil
       go_simp
       (go_at_call 135;refine(HU.out _).mono ?_;rintro e x1 ⟨rfl,m1⟩;have LU:=hid (on D4.out m1);have PU:=hid (P1.out.below LU.out);clear m1)
       go_wp2_with fail
       refine hK.out _ _ ?_ (fun hHeld=> ?_)
       ·exact PU.out.c1
       clear hK K
       try simp only[Act.put,Take.a,Take.b,Take.c]
       refine Take.k 7 ⟨some 69,.binOp .eql 9 (.tmp 66) (.tmp 68) 9,_,_,_,none⟩ ?_
       refine Take.k 8 ⟨some 2,.assign (.tmp 69),_,_,_,none⟩ ?_
       refine wpAnyH_done (by kernel_rfl) ?_ _
       have B5:=hid (HB.out.trans (LU.out.mono HB.out.size))
       go_wp2_with fail
       go_ret
       exact⟨by rw[HW.out];first|rfl|simp[tz],B5.out⟩
      have xn:good t.data.toList=false:=by simpa using hz
      rw[xn]at HW
      have hne:=dL xn
      obtain⟨u,hu⟩: ∃u,(FD.tx fun i=>has t.data.toList i||has t.data.toList i)=u:=⟨_,rfl⟩
      rw[hu]at uG hne
      have HU:=hid uG
      have tz:(u.toList==t.toList)=false:=by
       have: ¬u.toList=t.toList:=fun q=>hne (Kit.BM (by rw[<-Lib.toList_data,<-Lib.toList_data,q]))
       simpa using this
      clear hz xn hne hu uG
      have D4:=hid (below_draws wr 1)
      go_wp2_with fail
      refine wp_region_held_drew (S:=fun w'=>w'.cell? ⟨b1,1,none⟩=some (.string t)) (by kernel_rfl) P1.out.c1 (fun hHeld=> ?_)
      refine Take.k 0 ⟨some 62,.fieldAddr 56 (.tmp 1) 1,_,_,_,none⟩ ?_
      refine Take.k 1 ⟨some 63,.load 9 (.tmp 62),_,_,_,none⟩ ?_
      refine Take.k 2 ⟨some 64,.fieldAddr 56 (.tmp 1) 1,_,_,_,none⟩ ?_
      refine Take.k 3 ⟨some 65,.load 9 (.tmp 64),_,_,_,none⟩ ?_
      refine Take.k 5 ⟨some 67,.fieldAddr 56 (.tmp 1) 1,_,_,_,none⟩ ?_
      refine Take.k 6 ⟨some 68,.load 9 (.tmp 67),_,_,_,none⟩ ?_
      refine wpAnyH_ready (rs:= [4]) (by kernel_rfl) (by simp) ?_
      refine AllReadyH.cons (o:=⟨some 66,.call ⟨.value (.func 135), #[.tmp 63,.tmp 65], #[9,9]⟩,_,_,_,none⟩) rfl (fun K hK=> ?_) AllReadyH.nil
      go_simp
      (go_at_call 135;refine(HU.out _).mono ?_;rintro e x1 ⟨rfl,m1⟩;have LU:=hid (on D4.out m1);have PU:=hid (P1.out.below LU.out);clear m1)
      go_wp2_with fail
      refine hK.out _ _ ?_ (fun hHeld=> ?_)
      ·exact PU.out.c1
      clear hK K
      try simp only[Act.put,Take.a,Take.b,Take.c]
      refine Take.k 7 ⟨some 69,.binOp .eql 9 (.tmp 66) (.tmp 68) 9,_,_,_,none⟩ ?_
      refine Take.k 8 ⟨some 2,.assign (.tmp 69),_,_,_,none⟩ ?_
      refine wpAnyH_done (by kernel_rfl) ?_ _
      have B5:=hid (HB.out.trans (LU.out.mono HB.out.size))
      go_wp2_with fail
      go_ret
      exact⟨by rw[HW.out];first|rfl|simp[tz],B5.out⟩
     rw[if_neg h4]at HW
     have t4:(k==4)=false:=by simpa using h4
     by_cases hz:t.size=0
     ·rw[decide_eq_true hz,Bool.true_and]at HW
      have te:=Kit.Az (s:=t) (by omega)
      have qI:=Kit.Bb (s:=t) (by omega)
      clear hz
      by_cases k1:k=1
      ·rw[decide_eq_true (show k=1\/k=3\/k=5\/k=6 by omega)]at HW
       have u1:(k==1)=true:=by simp[k1]
       clear k1 h2 h4
       go_wp2_with fail
       go_ret
       exact⟨by rw[HW.out];rfl,HB.out⟩
      have u1:(k==1)=false:=by simpa using k1
      by_cases k3:k=3
      ·rw[decide_eq_true (show k=1\/k=3\/k=5\/k=6 by omega)]at HW
       have u3:(k==3)=true:=by simp[k3]
       clear k1 k3 h2 h4
       go_wp2_with fail
       go_ret
       exact⟨by rw[HW.out];rfl,HB.out⟩
      have u3:(k==3)=false:=by simpa using k3
      by_cases k5:k=5
      ·rw[decide_eq_true (show k=1\/k=3\/k=5\/k=6 by omega)]at HW
       have u5:(k==5)=true:=by simp[k5]
       clear k1 k3 k5 h2 h4
       go_wp2_with fail
       go_ret
       exact⟨by rw[HW.out];rfl,HB.out⟩
      have u5:(k==5)=false:=by simpa using k5
      by_cases k6:k=6
      ·rw[decide_eq_true (show k=1\/k=3\/k=5\/k=6 by omega)]at HW
       have u6:(k==6)=true:=by simp[k6]
       clear k1 k3 k5 k6 h2 h4
       go_wp2_with fail
       go_ret
       exact⟨by rw[HW.out];rfl,HB.out⟩
      have u6:(k==6)=false:=by simpa using k6
      rw[decide_eq_false (show¬(k=1\/k=3\/k=5\/k=6) by omega)]at HW
      clear k1 k3 k5 k6 h2 h4
      go_wp2_with fail
      go_ret
      exact⟨by rw[HW.out];rfl,HB.out⟩
     rw[decide_eq_false hz,Bool.false_and]at HW
     have te:=Kit.Ap (s:=t) (by omega)
     have qI:=Kit.Bl (s:=t) (by omega)
     clear hz h2 h4
     go_wp2_with fail
     go_ret
     exact⟨by rw[HW.out];rfl,HB.out⟩
    rw[decide_eq_false hz0,Bool.false_and]at HW
    have tn:(0:Int)<(n:Int):=by omega
    clear hz0
    go_wp2_with fail
    go_ret
    exact⟨by rw[HW.out];rfl,HB.out⟩
   have tt:(tp !=0)=true:=by simpa using htp
   have HW:Hid (V=false):=by unfold Hid;rw[uq.out];unfold own;rw[if_neg h9,decide_eq_true hm,decide_eq_false htp,Bool.true_and,Bool.false_and]
   clear hm htp h9
   go_wp2_with fail
   go_ret
   exact⟨by rw[HW.out];rfl,HB.out⟩
  have tm:(m !=0)=true:=by simpa using hm
  have HW:Hid (V=false):=by unfold Hid;rw[uq.out];unfold own;rw[if_neg h9,decide_eq_false hm,Bool.false_and]
  clear hm h9
  go_wp2_with fail
  go_ret
  exact⟨by rw[HW.out];rfl,HB.out⟩
theorem ZL (p:Piece): ∀(w:World) (r:Raw),Be w r p->Calls Tryz.prog 108 #[.agg (Ak r)] w fun e w'=>e= .returned (.bool (Dh p))/\Below w.heap.size w w':=by
 induction p using Bv.ind with
 |h k t ks m tp ih=>exact fun w r h=>dM (fun i hi=>ih ks[i] (List.getElem_mem hi)) h
end EH
namespace W14
open Strs Al Cj
open Kit (below_draws on)
theorem size_leaf {k:Int} (hk:k=1\/k=2\/k=3\/k=4\/k=5\/k=6) (t:ByteArray):size (Cj.leaf k t)=if k=1 then 0 else 1:=by
 unfold Cj.leaf size
 by_cases h1:k=1
 ·simp[h1]
 simp[h1,show 2<=k/\k<=6 by omega]
def RA (w:World) (p:Piece) (e:Ending) (w':World):Prop:=e= .returned (.int .i64 (size p))/\Below w.heap.size w w'
theorem XV (p:Piece) (M:Nat) (t:Int):size (.mk 9 ⟨#[]⟩ [p] M t)=min 4001 (if t= -1 then M*size p+size p+2 else M*size p+(t-M).toNat*(size p+1)):=by
 have h1:sizes [p]=size p:=by simp[sizes]
 conv=>lhs;unfold size
 rw[if_neg (by decide),if_neg (by decide),if_neg (by decide),if_neg (by decide),h1,Int.toNat_natCast]
theorem Fj {a b:Nat} (ha:a<=100) (hb:b<=4002):a*b<=400200:=Nat.le_trans (Nat.mul_le_mul ha hb) (by decide)
def ax (m t:Int):Prop:=(0<=m/\m<=100)/\(t= -1\/m<=t/\t<=100)
theorem LV {m t:Int} (h:ax m t) {A:Option Addr} {c:Nat} (hc:1<=c/\c<=9223372036854775807) (w:World):Calls Tryz.prog 48 #[.agg (Ak ⟨9,⟨#[]⟩,A,1,c,m,t⟩)] w fun e w'=>e= .returned (.bool true)/\Below w.heap.size w w':=by
 obtain⟨⟨hm0,hm1⟩,ht⟩:=h
 have hc1:=hc.1
 have hc2:=hc.2
 have x1: ¬m<0:=by omega
 have x2: ¬100<m:=by omega
 have x3: ¬100<t:=by omega
 by_cases q:t= -1
 ·subst q
  clear hc x3 hm0 hm1 ht
  go_enter Tryz.func48,Tryz.ntmps48
  go_wp2_with (first
   |(refine AV (r:=⟨9,⟨#[]⟩,A,1,c,m,-1⟩) rfl (.tmp 0) rfl rfl ?_;intro w1 b1 e1 p1 l1 z1;have a1:=p1.c1;have a2:=p1.c2;have a3:=p1.c3;have a4:=p1.c4;have L1:=hid l1;clear e1 p1 l1 z1;simp only at a1 a2 a3 a4))
  go_ret
  exact⟨rfl,L1.out⟩
 have x4:(t== -1)=false:=by simpa using q
 have x5:m<=t:=by omega
 clear hc hm0 hm1 ht q
 go_enter Tryz.func48,Tryz.ntmps48
 go_wp2_with (first
  |(refine AV (r:=⟨9,⟨#[]⟩,A,1,c,m,t⟩) rfl (.tmp 0) rfl rfl ?_;intro w1 b1 e1 p1 l1 z1;have a1:=p1.c1;have a2:=p1.c2;have a3:=p1.c3;have a4:=p1.c4;have L1:=hid l1;clear e1 p1 l1 z1;simp only at a1 a2 a3 a4))
 go_ret
 exact⟨rfl,L1.out⟩
end W14
namespace W14
open Strs Al Cj
open Kit (below_draws on)
theorem CR {a:Int} {n:Nat} (h:a=(n:Int)) (hn:n<=4000000):wrap64 a=(n:Int):=by subst h;unfold wrap64;omega
theorem VM (n:Nat):min (n:Int) 4001=((min 4001 n:Nat):Int):=by omega
end W14
namespace Bv
open Go Cj
mutual
def Cb:Piece->Nat
 | .mk k t ks m tp=>min 4001 (if k=1 then 0 else if 2<=k/\k<=6 then 1 else if k=7 then Di ks else if k=8 then Di ks+2*(ks.length-1)else if k=9/\ZG t ks.length m tp=true then(if tp= -1 then m.toNat*Di ks+Di ks+2 else m.toNat*Di ks+(tp-m).toNat*(Di ks+1))else 4001)
def Di:List Piece->Nat
 | []=>0
 |p::l=>Cb p+Di l
end
theorem Mq (p:Piece):Cb p<=4001:=by
 match p with
 | .mk k t l a b=>unfold Cb;exact Nat.min_le_left _ _
theorem Sv (l m:List Piece):Di (l++m)=Di l+Di m:=by
 induction l with
 |nil=>simp[Di]
 |cons p l ih=>rw[List.cons_append,Di,ih,Di];omega
theorem Ot {l:List Piece} {i:Nat} (h:i<l.length):Di (l.take (i+1))=Di (l.take i)+Cb l[i]:=by
 rw[List.take_succ_eq_append_getElem h,Sv]
 simp[Di]
def Iw (k:Int) (ks:List Piece) (i:Nat):Nat:=min (Di (ks.take i)+(if k=8 then 2*(i-1)else 0)) 4001
theorem RD {k:Int} (hk:k=7\/k=8) (t:ByteArray) (ks:List Piece) (l tp:Int):Cb (.mk k t ks l tp)=Iw k ks ks.length:=by
 unfold Cb Iw
 rw[List.take_length]
 rcases hk with rfl|rfl
 ·rw[if_neg (by decide),if_neg (by decide),if_pos rfl,if_neg (by decide)];omega
 rw[if_neg (by decide),if_neg (by decide),if_neg (by decide),if_pos rfl,if_pos rfl];omega
theorem Ph (k:Int) (ks:List Piece) (i:Nat):Iw k ks i<=4001:=Nat.min_le_right _ _
theorem ru {ks:List Piece} {i n m:Nat} (hi:i<ks.length) (hn:Iw 7 ks i=n) (hm:Cb (ks[i]'hi)=m):Iw 7 ks (i+1)=min (n+m) 4001:=by
 subst hn hm
 unfold Iw
 rw[if_neg (by decide),if_neg (by decide),Ot hi];omega
theorem ry {ks:List Piece} {i n m:Nat} (hi:i<ks.length) (hn:Iw 8 ks i=n) (hm:Cb (ks[i]'hi)=m):Iw 8 ks (i+1)=min (n+m+(if 0<i then 2 else 0)) 4001:=by
 subst hn hm
 unfold Iw
 rw[if_pos rfl,if_pos rfl,Ot hi]
 by_cases h:0<i
 ·rw[if_pos h];omega
 rw[if_neg h]
 obtain rfl:i=0:=by omega
 simp only[List.take_zero,Nat.mul_zero,Nat.add_zero,Nat.zero_sub,Nat.zero_add,Nat.sub_self]
 omega
theorem ay {k:Int} (hk:1<=k/\k<=6) (t:ByteArray) (ks:List Piece) (m tp:Int):Cb (.mk k t ks m tp)=if k=1 then 0 else 1:=by
 unfold Cb
 by_cases h1:k=1
 ·simp[h1]
 simp[h1,show 2<=k/\k<=6 by omega]
theorem jF {k:Int} (hk: ¬(1<=k/\k<=9)) (t:ByteArray) (ks:List Piece) (m tp:Int):Cb (.mk k t ks m tp)=4001:=by
 unfold Cb
 rw[if_neg (by omega),if_neg (by omega),if_neg (by omega),if_neg (by omega),if_neg (by omega)];rfl
theorem dN {t:ByteArray} {ks:List Piece} {m tp:Int} (h:ZG t ks.length m tp=false):Cb (.mk 9 t ks m tp)=4001:=by
 unfold Cb
 rw[if_neg (by decide),if_neg (by decide),if_neg (by decide),if_neg (by decide),if_neg (by simp[h])];rfl
theorem Nq (p:Piece) (M:Nat) (t:Int) (h:ZG ⟨#[]⟩ 1 M t=true):Cb (.mk 9 ⟨#[]⟩ [p] M t)=min 4001 (if t= -1 then M*Cb p+Cb p+2 else M*Cb p+(t-M).toNat*(Cb p+1)):=by
 have h1:Di [p]=Cb p:=by simp[Di]
 have h2:ZG ⟨#[]⟩ [p].length M t=true:=h
 conv=>lhs;unfold Cb
 rw[if_neg (by decide),if_neg (by decide),if_neg (by decide),if_neg (by decide),if_pos ⟨rfl,h2⟩,h1,Int.toNat_natCast]
theorem ZM {M:Nat} {t:Int} (hM:M<=100) (ht:t= -1\/(M:Int)<=t/\t<=100):ZG ⟨#[]⟩ 1 M t=true:=by
 unfold ZG
 have h0:(⟨#[]⟩:ByteArray).size=0:=rfl
 rw[decide_eq_true h0,decide_eq_true (show(1:Nat)=1 from rfl),decide_eq_true (show(0:Int)<=M by omega),decide_eq_true (show(M:Int)<=100 by omega),decide_eq_true (show t<=100 by omega)]
 by_cases q:t= -1
 ·rw[decide_eq_true q];rfl
 rw[decide_eq_false q,decide_eq_true (show(M:Int)<=t by omega)];rfl
theorem UN: ∀ {l:List Piece},(∀p,p∈l->Cb p=size p)->Di l=sizes l
 | [],_=>by simp[Di,sizes]
 |p::l,h=>by rw[Di,sizes,h p (by simp),UN (fun q hq=>h q (by simp[hq]))]
theorem RG {p:Piece} (h:Good p):Cb p=size p:=by
 induction h with
 |leaf k t h=>rw[VA h];exact ay h _ _ _ _
 |many k hk ks h2 hw ih=>
  unfold Cb size
  rw[UN ih]
  rcases hk with rfl|rfl
  ·rfl
  rfl
 |rep p m t hm ht hw ih=>
  obtain⟨M,rfl⟩: ∃M:Nat,m=(M:Int):=⟨m.toNat,by omega⟩
  have h1:=Nq p M t (ZM (by omega) ht)
  have h2:=II no p (M:Int) t
  rw[show(⟨#[]⟩:ByteArray)=no from rfl,ih]at h1
  rw[Int.toNat_natCast]at h2
  rw[h1,h2]
end Bv
namespace EH
open Strs Al Bv
open Cj (Piece)
open W14 (Raw Ak Co DF Ad Be AV AU Aq AO CR VM Fj LV)
open Kit (below_draws on)
abbrev Kids (w:World) (A:Option Addr) (c:Nat) (Ag:List Raw) (ks:List Piece):Prop:=W14.Kids w A c Ag ks
def Sw (w:World) (p:Piece) (e:Ending) (w':World):Prop:=e= .returned (.int .i64 (Cb p))/\Below w.heap.size w w'
theorem XW {k:Int} (hk:1<=k/\k<=6) {t:ByteArray} {ks:List Piece} {l tp:Int} {w:World} {r:Raw} (h:Be w r (.mk k t ks l tp)):Calls Tryz.prog 28 #[.agg (Ak r)] w (Sw w (.mk k t ks l tp)):=by
 unfold Sw
 rw[ay hk]
 obtain⟨A,c,Ag,rfl,k1⟩:=h.parts
 have r1:=k1.room
 have hc1:=r1.1
 have hc2:=r1.2
 obtain⟨n,hn⟩: ∃n,ks.length=n:=⟨_,rfl⟩
 rw[hn]at hc1 ⊢
 clear h k1 r1 hn
 have:k=1\/k=2\/k=3\/k=4\/k=5\/k=6:=by omega
 by_cases h0:0<n
 ·have t0:(0:Int)<(n:Int):=by omega
  clear h0 hk
  rcases this with rfl|rfl|rfl|rfl|rfl|rfl
  all_goals
   go_enter Tryz.func28,Tryz.ntmps28
   go_wp2_with (first
    |(refine AV rfl (.tmp 0) rfl rfl ?_;intro w1 b1 e1 p1 l1 z1;have a0:=p1.c0;have a2:=p1.c2;have L1:=hid l1;clear e1 p1 l1 z1;simp only at a0 a2))
   go_loopg [3,4] 1 (fun gk s3 s4 wr=>s3= .int .i64 0/\s4= .int .i64 0/\wr=w1)
   case atStart=>exact⟨rfl,rfl,rfl⟩
   case round=>
    obtain⟨rfl,rfl,rfl⟩:=hrel
    go_wp2_with fail
    go_ret
    exact⟨by first|rfl|simp,L1.out⟩
 have t0: ¬(0:Int)<(n:Int):=by omega
 clear h0 hk
 rcases this with rfl|rfl|rfl|rfl|rfl|rfl
 all_goals
  go_enter Tryz.func28,Tryz.ntmps28
  go_wp2_with (first
   |(refine AV rfl (.tmp 0) rfl rfl ?_;intro w1 b1 e1 p1 l1 z1;have a0:=p1.c0;have a2:=p1.c2;have L1:=hid l1;clear e1 p1 l1 z1;simp only at a0 a2))
  go_loopg [3,4] 1 (fun gk s3 s4 wr=>s3= .int .i64 0/\s4= .int .i64 0/\wr=w1)
  case atStart=>exact⟨rfl,rfl,rfl⟩
  case round=>
   obtain⟨rfl,rfl,rfl⟩:=hrel
   go_wp2_with fail
   go_ret
   exact⟨by first|rfl|simp,L1.out⟩
theorem VN {k:Int} (hk: ¬(1<=k/\k<=9)) {t:ByteArray} {ks:List Piece} {l tp:Int} {w:World} {r:Raw} (h:Be w r (.mk k t ks l tp)):Calls Tryz.prog 28 #[.agg (Ak r)] w (Sw w (.mk k t ks l tp)):=by
 unfold Sw
 rw[jF hk]
 obtain⟨A,c,Ag,rfl,k1⟩:=h.parts
 have r1:=k1.room
 have hc1:=r1.1
 have hc2:=r1.2
 obtain⟨n,hn⟩: ∃n,ks.length=n:=⟨_,rfl⟩
 rw[hn]at hc1 ⊢
 have t7:(k==7)=false:=by simp;omega
 have t8:(k==8)=false:=by simp;omega
 clear h k1 r1 hn
 by_cases h0:0<n
 ·have t0:(0:Int)<(n:Int):=by omega
  clear h0
  by_cases q:k<1
  ·have q2: ¬2<=k:=by omega
   clear hk
   go_enter Tryz.func28,Tryz.ntmps28
   go_wp2_with (first
    |(refine AV (r:=⟨k,t,A,n,c,l,tp⟩) rfl (.tmp 0) rfl rfl ?_;intro w1 b1 e1 p1 l1 z1;have a0:=p1.c0;have a2:=p1.c2;have L1:=hid l1;clear e1 p1 l1 z1;simp only at a0 a2))
   go_loopg [3,4] 1 (fun gk s3 s4 wr=>s3= .int .i64 0/\s4= .int .i64 0/\wr=w1)
   case atStart=>exact⟨rfl,rfl,rfl⟩
   case round=>
    obtain⟨rfl,rfl,rfl⟩:=hrel
    go_wp2_with fail
    go_ret
    exact⟨rfl,L1.out⟩
  have q2:2<=k:=by omega
  have q3: ¬k<=6:=by omega
  have q4:9<k:=by omega
  clear hk
  go_enter Tryz.func28,Tryz.ntmps28
  go_wp2_with (first
   |(refine AV (r:=⟨k,t,A,n,c,l,tp⟩) rfl (.tmp 0) rfl rfl ?_;intro w1 b1 e1 p1 l1 z1;have a0:=p1.c0;have a2:=p1.c2;have L1:=hid l1;clear e1 p1 l1 z1;simp only at a0 a2))
  go_loopg [3,4] 1 (fun gk s3 s4 wr=>s3= .int .i64 0/\s4= .int .i64 0/\wr=w1)
  case atStart=>exact⟨rfl,rfl,rfl⟩
  case round=>
   obtain⟨rfl,rfl,rfl⟩:=hrel
   go_wp2_with fail
   go_ret
   exact⟨rfl,L1.out⟩
 have t0: ¬(0:Int)<(n:Int):=by omega
 clear h0
 by_cases q:k<1
 ·have q2: ¬2<=k:=by omega
  clear hk
  go_enter Tryz.func28,Tryz.ntmps28
  go_wp2_with (first
   |(refine AV (r:=⟨k,t,A,n,c,l,tp⟩) rfl (.tmp 0) rfl rfl ?_;intro w1 b1 e1 p1 l1 z1;have a0:=p1.c0;have a2:=p1.c2;have L1:=hid l1;clear e1 p1 l1 z1;simp only at a0 a2))
  go_loopg [3,4] 1 (fun gk s3 s4 wr=>s3= .int .i64 0/\s4= .int .i64 0/\wr=w1)
  case atStart=>exact⟨rfl,rfl,rfl⟩
  case round=>
   obtain⟨rfl,rfl,rfl⟩:=hrel
   go_wp2_with fail
   go_ret
   exact⟨rfl,L1.out⟩
 have q2:2<=k:=by omega
 have q3: ¬k<=6:=by omega
 have q4:9<k:=by omega
 clear hk
 go_enter Tryz.func28,Tryz.ntmps28
 go_wp2_with (first
  |(refine AV (r:=⟨k,t,A,n,c,l,tp⟩) rfl (.tmp 0) rfl rfl ?_;intro w1 b1 e1 p1 l1 z1;have a0:=p1.c0;have a2:=p1.c2;have L1:=hid l1;clear e1 p1 l1 z1;simp only at a0 a2))
 go_loopg [3,4] 1 (fun gk s3 s4 wr=>s3= .int .i64 0/\s4= .int .i64 0/\wr=w1)
 case atStart=>exact⟨rfl,rfl,rfl⟩
 case round=>
  obtain⟨rfl,rfl,rfl⟩:=hrel
  go_wp2_with fail
  go_ret
  exact⟨rfl,L1.out⟩
theorem ZN {t:ByteArray} {ks:List Piece} {m tp:Int} (ho:ZG t ks.length m tp=false) {w:World} {r:Raw} (h:Be w r (.mk 9 t ks m tp)):Calls Tryz.prog 28 #[.agg (Ak r)] w (Sw w (.mk 9 t ks m tp)):=by
 unfold Sw
 rw[dN ho]
 obtain⟨A,c,Ag,rfl,k1⟩:=h.parts
 have r1:=k1.room
 have hc1:=r1.1
 have hc2:=r1.2
 have HO:=XU 9 t A ks.length c m tp r1
 rw[ho]at HO
 unfold JP at HO
 replace HO:=hid HO
 obtain⟨n,hn⟩: ∃n,ks.length=n:=⟨_,rfl⟩
 rw[hn]at hc1 HO ⊢
 clear h k1 r1 hn ho
 by_cases h0:0<n
 ·have t0:(0:Int)<(n:Int):=by omega
  clear h0
  go_enter Tryz.func28,Tryz.ntmps28
  go_wp2_with (first
   |(refine AV (r:=⟨9,t,A,n,c,m,tp⟩) rfl (.tmp 0) rfl rfl ?_;intro w1 b1 e1 p1 l1 z1;have P1:=hid p1;have a0:=p1.c0;have a1:=p1.c1;have a2:=p1.c2;have a3:=p1.c3;have a4:=p1.c4;have L1:=hid l1;clear e1 p1 l1 z1;simp only at a0 a1 a2 a3 a4))
  go_loopg [3,4] 1 (fun gk s3 s4 wr=>s3= .int .i64 0/\s4= .int .i64 0/\wr=w1)
  case atStart=>exact⟨rfl,rfl,rfl⟩
  case round=>
   obtain⟨rfl,rfl,rfl⟩:=hrel
   go_wp2_with fail
   refine(HO.out _).mono ?_
   rintro e w2 ⟨rfl,l2⟩
   have L2:=hid (on L1.out l2)
   clear l2
   go_wp2_with fail
   go_ret
   exact⟨rfl,L2.out⟩
 have t0: ¬(0:Int)<(n:Int):=by omega
 clear h0
 go_enter Tryz.func28,Tryz.ntmps28
 go_wp2_with (first
  |(refine AV (r:=⟨9,t,A,n,c,m,tp⟩) rfl (.tmp 0) rfl rfl ?_;intro w1 b1 e1 p1 l1 z1;have P1:=hid p1;have a0:=p1.c0;have a1:=p1.c1;have a2:=p1.c2;have a3:=p1.c3;have a4:=p1.c4;have L1:=hid l1;clear e1 p1 l1 z1;simp only at a0 a1 a2 a3 a4))
 go_loopg [3,4] 1 (fun gk s3 s4 wr=>s3= .int .i64 0/\s4= .int .i64 0/\wr=w1)
 case atStart=>exact⟨rfl,rfl,rfl⟩
 case round=>
  obtain⟨rfl,rfl,rfl⟩:=hrel
  go_wp2_with fail
  refine(HO.out _).mono ?_
  rintro e w2 ⟨rfl,l2⟩
  have L2:=hid (on L1.out l2)
  clear l2
  go_wp2_with fail
  go_ret
  exact⟨rfl,L2.out⟩
theorem ZO {t:ByteArray} {l tp:Int} {ks:List Piece} (IH: ∀i (hi:i<ks.length) (w:World) (r:Raw),Be w r ks[i]->Calls Tryz.prog 28 #[.agg (Ak r)] w (Sw w ks[i])) {w:World} {r:Raw} (h:Be w r (.mk 7 t ks l tp)):Calls Tryz.prog 28 #[.agg (Ak r)] w (Sw w (.mk 7 t ks l tp)):=by
 unfold Sw
 rw[RD (.inl rfl) t ks l tp]
 obtain⟨A,c,Ag,rfl,k1⟩:=h.parts
 have HI:=hid IH
 have hr1:=k1.room.1
 have hr2:=k1.room.2
 have K1:=hid k1
 clear h k1 IH
 go_enter Tryz.func28,Tryz.ntmps28
 go_wp2_with (first
  |(refine AV (r:=⟨7,t,A,ks.length,c,l,tp⟩) rfl (.tmp 0) rfl rfl ?_;intro w1 b1 e1 p1 l1 z1;have P1:=hid p1;have L1:=hid l1;clear e1 p1 l1 z1))
 have K1:=hid (K1.out.below L1.out)
 have HR:=hid (show ks.length<=c/\c<=9223372036854775807 from⟨hr1,hr2⟩)
 clear hr1 hr2
 go_loopg [3,4] ks.length (fun gk s3 s4 wr=> ∃i:Nat,s3= .int .i64 (Iw 7 ks i:Nat)/\s4= .int .i64 i/\Hid (i+gk=ks.length)/\Hid (Ad wr b1 ⟨7,t,A,ks.length,c,l,tp⟩)/\Hid (Kids wr A c Ag ks)/\Hid (Below w.heap.size w wr))
 case atStart=>exact⟨0,rfl,rfl,by unfold Hid;omega,P1,K1,L1⟩
 case round=>
  obtain⟨i,rfl,rfl,hig,P1,K1,HB⟩:=hrel
  have a0:=P1.out.c0
  have a2:=P1.out.c2
  simp only at a0 a2
  have hn1:=HR.out.1
  have hn2:=HR.out.2
  by_cases hi:i<ks.length
  ·have ti:(i:Int)<(ks.length:Int):=by omega
   obtain⟨g1,o1,rfl,C1⟩:=K1.out.at_ (Nat.lt_of_le_of_lt (Nat.zero_le _) hi)
   obtain⟨hr1,q1⟩:=K1.out.kid hi
   have E1:=hid (C1 i hr1)
   have HC:=hid (HI.out i hi wr _ q1)
   have HL:=hid (Ph 7 ks i)
   have HI2:=hid hi
   clear C1 q1
   obtain⟨n,hn⟩: ∃n,Iw 7 ks i=n:=⟨_,rfl⟩
   obtain⟨m,hm⟩: ∃m,Cb (ks[i]'hi)=m:=⟨_,rfl⟩
   have HX:=hid (ru hi hn hm)
   rw[hn]at HL ⊢
   have HS:=hid (show m<=4001 from hm▸Mq _)
   have HM:=hid hm
   clear hn hm
   go_wp2_with (first|(refine Aq rfl (.tmp 27) rfl rfl (r:=Ag[i]) E1.out ?_))
   refine HC.out.mono ?_
   rintro e w2 ⟨rfl,l2⟩
   rw[HM.out]
   have P2:=hid (P1.out.below l2)
   have K2:=hid (K1.out.below l2)
   have B2:=hid (HB.out.trans (l2.mono HB.out.size))
   have a0:=P2.out.c0
   have a2:=P2.out.c2
   simp only at a0 a2
   have hw:wrap64 ((n:Int)+(m:Int))=((n+m:Nat):Int):=by have:=HS.out;have:=HL.out;unfold wrap64;omega
   have DT:wrap64 ((i:Int)+1)=((i+1:Nat):Int):=by unfold wrap64;omega
   have hmin:min ((n+m:Nat):Int) 4001=((Iw 7 ks (i+1):Nat):Int):=by rw[HX.out];omega
   have rz:=hid DT
   clear l2 HC E1
   cases gk with
   |zero=>exact absurd hig.out (by have:=HI2.out;omega)
   |succ g=>
    by_cases h0:0<i
    ·have t0:(0:Int)<(i:Int):=by omega
     go_wp2_with fail
     go_roundg g
     case measure=>omega
     case rel=>exact⟨i+1,by first|rfl|exact congrArg (Value.int .i64) hmin,by first|rfl|exact congrArg (Value.int .i64) rz.out,by have:=hig.out;unfold Hid;omega,P2,K2,B2⟩
    have t0: ¬(0:Int)<(i:Int):=by omega
    go_wp2_with fail
    go_roundg g
    case measure=>omega
    case rel=>exact⟨i+1,by first|rfl|exact congrArg (Value.int .i64) hmin,by first|rfl|exact congrArg (Value.int .i64) rz.out,by have:=hig.out;unfold Hid;omega,P2,K2,B2⟩
  have ti: ¬(i:Int)<(ks.length:Int):=by omega
  have hie:i=ks.length:=by have:=hig.out;omega
  have hle:=Ph 7 ks i
  have HE:=hid hie
  have hmin:min ((Iw 7 ks i:Nat):Int) 4001=((Iw 7 ks i:Nat):Int):=by omega
  clear hle hie
  go_wp2_with fail
  go_ret
  exact⟨by rw[<-HE.out];first|rfl|rw[hmin],HB.out⟩
theorem ZP {t:ByteArray} {l tp:Int} {ks:List Piece} (IH: ∀i (hi:i<ks.length) (w:World) (r:Raw),Be w r ks[i]->Calls Tryz.prog 28 #[.agg (Ak r)] w (Sw w ks[i])) {w:World} {r:Raw} (h:Be w r (.mk 8 t ks l tp)):Calls Tryz.prog 28 #[.agg (Ak r)] w (Sw w (.mk 8 t ks l tp)):=by
 unfold Sw
 rw[RD (.inr rfl) t ks l tp]
 obtain⟨A,c,Ag,rfl,k1⟩:=h.parts
 have HI:=hid IH
 have hr1:=k1.room.1
 have hr2:=k1.room.2
 have K1:=hid k1
 clear h k1 IH
 go_enter Tryz.func28,Tryz.ntmps28
 go_wp2_with (first
  |(refine AV (r:=⟨8,t,A,ks.length,c,l,tp⟩) rfl (.tmp 0) rfl rfl ?_;intro w1 b1 e1 p1 l1 z1;have P1:=hid p1;have L1:=hid l1;clear e1 p1 l1 z1))
 have K1:=hid (K1.out.below L1.out)
 have HR:=hid (show ks.length<=c/\c<=9223372036854775807 from⟨hr1,hr2⟩)
 clear hr1 hr2
 go_loopg [3,4] ks.length (fun gk s3 s4 wr=> ∃i:Nat,s3= .int .i64 (Iw 8 ks i:Nat)/\s4= .int .i64 i/\Hid (i+gk=ks.length)/\Hid (Ad wr b1 ⟨8,t,A,ks.length,c,l,tp⟩)/\Hid (Kids wr A c Ag ks)/\Hid (Below w.heap.size w wr))
 case atStart=>exact⟨0,rfl,rfl,by unfold Hid;omega,P1,K1,L1⟩
 case round=>
  obtain⟨i,rfl,rfl,hig,P1,K1,HB⟩:=hrel
  have a0:=P1.out.c0
  have a2:=P1.out.c2
  simp only at a0 a2
  have hn1:=HR.out.1
  have hn2:=HR.out.2
  by_cases hi:i<ks.length
  ·have ti:(i:Int)<(ks.length:Int):=by omega
   obtain⟨g1,o1,rfl,C1⟩:=K1.out.at_ (Nat.lt_of_le_of_lt (Nat.zero_le _) hi)
   obtain⟨hr1,q1⟩:=K1.out.kid hi
   have E1:=hid (C1 i hr1)
   have HC:=hid (HI.out i hi wr _ q1)
   have HL:=hid (Ph 8 ks i)
   have HI2:=hid hi
   clear C1 q1
   obtain⟨n,hn⟩: ∃n,Iw 8 ks i=n:=⟨_,rfl⟩
   obtain⟨m,hm⟩: ∃m,Cb (ks[i]'hi)=m:=⟨_,rfl⟩
   have HX:=hid (ry hi hn hm)
   rw[hn]at HL ⊢
   have HS:=hid (show m<=4001 from hm▸Mq _)
   have HM:=hid hm
   clear hn hm
   go_wp2_with (first|(refine Aq rfl (.tmp 27) rfl rfl (r:=Ag[i]) E1.out ?_))
   refine HC.out.mono ?_
   rintro e w2 ⟨rfl,l2⟩
   rw[HM.out]
   have P2:=hid (P1.out.below l2)
   have K2:=hid (K1.out.below l2)
   have B2:=hid (HB.out.trans (l2.mono HB.out.size))
   have a0:=P2.out.c0
   have a2:=P2.out.c2
   simp only at a0 a2
   have hw:wrap64 ((n:Int)+(m:Int))=((n+m:Nat):Int):=by have:=HS.out;have:=HL.out;unfold wrap64;omega
   have DT:wrap64 ((i:Int)+1)=((i+1:Nat):Int):=by unfold wrap64;omega
   have rz:=hid DT
   clear l2 HC E1
   cases gk with
   |zero=>exact absurd hig.out (by have:=HI2.out;omega)
   |succ g=>
    by_cases h0:0<i
    ·have t0:(0:Int)<(i:Int):=by omega
     have hw3:wrap64 ((n:Int)+(m:Int)+2)=((n+m+2:Nat):Int):=by have:=HS.out;have:=HL.out;unfold wrap64;omega
     have hmin:min (wrap64 ((n:Int)+(m:Int)+2)) 4001=((Iw 8 ks (i+1):Nat):Int):=by rw[hw3,HX.out,if_pos h0];omega
     clear hw3
     go_wp2_with fail
     go_roundg g
     case measure=>omega
     case rel=>exact⟨i+1,by first|rfl|exact congrArg (Value.int .i64) hmin,by first|rfl|exact congrArg (Value.int .i64) rz.out,by have:=hig.out;unfold Hid;omega,P2,K2,B2⟩
    have t0: ¬(0:Int)<(i:Int):=by omega
    have hmin:min ((n+m:Nat):Int) 4001=((Iw 8 ks (i+1):Nat):Int):=by rw[HX.out,if_neg h0];omega
    go_wp2_with fail
    go_roundg g
    case measure=>omega
    case rel=>exact⟨i+1,by first|rfl|exact congrArg (Value.int .i64) hmin,by first|rfl|exact congrArg (Value.int .i64) rz.out,by have:=hig.out;unfold Hid;omega,P2,K2,B2⟩
  have ti: ¬(i:Int)<(ks.length:Int):=by omega
  have hie:i=ks.length:=by have:=hig.out;omega
  have hle:=Ph 8 ks i
  have HE:=hid hie
  have hmin:min ((Iw 8 ks i:Nat):Int) 4001=((Iw 8 ks i:Nat):Int):=by omega
  clear hle hie
  go_wp2_with fail
  go_ret
  exact⟨by rw[<-HE.out];first|rfl|rw[hmin],HB.out⟩
theorem XX {p:Piece} {M:Nat} (hM:M<=100) (IH: ∀(w:World) (r:Raw),Be w r p->Calls Tryz.prog 28 #[.agg (Ak r)] w (Sw w p)) {w:World} {r:Raw} (h:Be w r (.mk 9 ⟨#[]⟩ [p] M (-1))):Calls Tryz.prog 28 #[.agg (Ak r)] w (Sw w (.mk 9 ⟨#[]⟩ [p] M (-1))):=by
 unfold Sw
 rw[Nq _ _ _ (ZM hM (.inl rfl))]
 obtain⟨A,c,Ag,rfl,k1⟩:=h.parts
 have hr:1<=c/\c<=9223372036854775807:=k1.room
 obtain⟨g1,o1,rfl,C1⟩:=k1.at_ (Nat.lt_succ_self 0)
 obtain⟨hr1,q1⟩:=k1.kid (i:=0) (Nat.lt_succ_self 0)
 have HG:=hid (k1.2.1 _ rfl (Nat.lt_of_le_of_lt (Nat.zero_le _) hr1))
 have E1:=C1 0 hr1
 obtain⟨rk,Hy⟩: ∃rk,Ag[0]=rk:=⟨_,rfl⟩
 rw[Hy]at E1 q1
 have Q1:Hid (Be w rk p):=q1
 rw[show o1+0*5=o1 by omega]at E1
 have E1:=hid E1
 have HI:=hid (fun(w:World) (h:Be w rk p)=>IH w rk h)
 have HO:=hid (fun w=>LV (m:=(M:Int)) (t:=(-1)) ⟨by omega,by omega⟩ (A:=some ⟨g1,o1,none⟩) hr w)
 have hS:=Mq p
 obtain⟨K,hK⟩: ∃K,Cb p=K:=⟨_,rfl⟩
 have HK:=hid hK
 rw[hK]at hS ⊢
 have ZQ:=Fj (a:=M) (b:=K) (by omega) (by omega)
 obtain⟨P,hP⟩: ∃P,M*K=P:=⟨_,rfl⟩
 rw[hP]at ZQ
 have hw1:Hid (wrap64 ((M:Int)*(K:Int))=(P:Int)):=CR (by rw[<-Int.natCast_mul,hP]) (Nat.le_trans ZQ (by decide))
 replace hP:=hid hP
 obtain⟨P2,hP2⟩: ∃P2,P+K=P2:=⟨_,rfl⟩
 have hw2:Hid (wrap64 ((P:Int)+(K:Int))=(P2:Int)):=CR (by rw[<-hP2,Int.natCast_add]) (by omega)
 obtain⟨P3,hP3⟩: ∃P3,P2+2=P3:=⟨_,rfl⟩
 have hw3:Hid (wrap64 ((P2:Int)+2)=(P3:Int)):=CR (by rw[<-hP3,Int.natCast_add];rfl) (by omega)
 have hmin:=VM P3
 have HE:Hid (min 4001 (if(-1:Int)= -1 then M*K+K+2 else M*K+(-1-(M:Int)).toNat*(K+1))=min 4001 P3):=by
  unfold Hid
  rw[if_pos rfl,hP.out,hP2,hP3]
 rw[HE.out]
 clear HE
 have hc1:=hr.1
 have hc2:=hr.2
 have jG:=hid hmin
 clear hM
 clear h k1 C1 q1 Hy hr1 IH hK hS ZQ hP2 hP3 hr hmin
 go_enter Tryz.func28,Tryz.ntmps28
 go_wp2_with (first
  |(refine AV (r:=⟨9,⟨#[]⟩,some ⟨g1,o1,none⟩,1,c,(M:Int),(-1)⟩) rfl (.tmp 0) rfl rfl ?_;intro w1 b1 e1 p1 l1 z1;have P1:=hid p1;have L1:=hid l1;have a0:=p1.c0;have a1:=p1.c1;have a2:=p1.c2;have a3:=p1.c3;have a4:=p1.c4;clear e1 p1 l1 z1;simp only at a0 a1 a2 a3 a4))
 go_loopg [3,4] 1 (fun gk s3 s4 wr=>s3= .int .i64 0/\s4= .int .i64 0/\wr=w1)
 case atStart=>exact⟨rfl,rfl,rfl⟩
 case round=>
  obtain⟨rfl,rfl,rfl⟩:=hrel
  go_wp2_with fail
  refine(HO.out _).mono ?_
  rintro e w2 ⟨rfl,l2⟩
  have RH:=hid (P1.out.below l2)
  have L2:=hid (L1.out.trans (l2.mono L1.out.size))
  have E2:Hid (∀j,j<5->w2.cell? ⟨g1,o1+j,none⟩=(Co rk)[j]?):=fun j hj=>(AO (L2.out.block g1 HG.out)).trans (E1.out j hj)
  have Q2:=hid (Q1.out.below L2.out)
  have a0:=RH.out.c0
  have a2:=RH.out.c2
  simp only at a0 a2
  clear l2
  go_wp2_with (first|(refine Aq rfl (.tmp 73) rfl rfl (r:=rk) E2.out ?_))
  refine(HI.out _ Q2.out).mono ?_
  rintro e w3 ⟨rfl,l3⟩
  rw[HK.out]
  have jH:=hid (RH.out.below l3)
  have L3:=hid (L2.out.trans (l3.mono L2.out.size))
  have a3:=jH.out.c3
  have a4:=jH.out.c4
  simp only at a3 a4
  clear l3
  replace hw1:=hw1.out
  replace hw2:=hw2.out
  replace hw3:=hw3.out
  go_wp2_with fail
  go_ret
  refine⟨?_,L3.out⟩
  first|rfl|exact congrArg (fun x=>Ending.returned (Value.int .i64 x)) jG.out
theorem XY {p:Piece} {M T:Nat} (hM:M<=100) (hT:M<=T/\T<=100) (IH: ∀(w:World) (r:Raw),Be w r p->Calls Tryz.prog 28 #[.agg (Ak r)] w (Sw w p)) {w:World} {r:Raw} (h:Be w r (.mk 9 ⟨#[]⟩ [p] M (T:Int))):Calls Tryz.prog 28 #[.agg (Ak r)] w (Sw w (.mk 9 ⟨#[]⟩ [p] M (T:Int))):=by
 unfold Sw
 rw[Nq _ _ _ (ZM hM (.inr ⟨by omega,by omega⟩))]
 obtain⟨A,c,Ag,rfl,k1⟩:=h.parts
 have hr:1<=c/\c<=9223372036854775807:=k1.room
 obtain⟨g1,o1,rfl,C1⟩:=k1.at_ (Nat.lt_succ_self 0)
 obtain⟨hr1,q1⟩:=k1.kid (i:=0) (Nat.lt_succ_self 0)
 have HG:=hid (k1.2.1 _ rfl (Nat.lt_of_le_of_lt (Nat.zero_le _) hr1))
 have E1:=C1 0 hr1
 obtain⟨rk,Hy⟩: ∃rk,Ag[0]=rk:=⟨_,rfl⟩
 rw[Hy]at E1 q1
 have Q1:Hid (Be w rk p):=q1
 rw[show o1+0*5=o1 by omega]at E1
 have E1:=hid E1
 have HI:=hid (fun(w:World) (h:Be w rk p)=>IH w rk h)
 have HO:=hid (fun w=>LV (m:=(M:Int)) (t:=(T:Int)) ⟨by omega,by omega⟩ (A:=some ⟨g1,o1,none⟩) hr w)
 have hS:=Mq p
 obtain⟨K,hK⟩: ∃K,Cb p=K:=⟨_,rfl⟩
 have HK:=hid hK
 rw[hK]at hS ⊢
 have ZQ:=Fj (a:=M) (b:=K) (by omega) (by omega)
 obtain⟨P,hP⟩: ∃P,M*K=P:=⟨_,rfl⟩
 rw[hP]at ZQ
 have hw1:Hid (wrap64 ((M:Int)*(K:Int))=(P:Int)):=CR (by rw[<-Int.natCast_mul,hP]) (Nat.le_trans ZQ (by decide))
 replace hP:=hid hP
 obtain⟨P2,hP2⟩: ∃P2,P+K=P2:=⟨_,rfl⟩
 have hw2:Hid (wrap64 ((P:Int)+(K:Int))=(P2:Int)):=CR (by rw[<-hP2,Int.natCast_add]) (by omega)
 obtain⟨P3,hP3⟩: ∃P3,P2+2=P3:=⟨_,rfl⟩
 have hw3:Hid (wrap64 ((P2:Int)+2)=(P3:Int)):=CR (by rw[<-hP3,Int.natCast_add];rfl) (by omega)
 obtain⟨D,hD⟩: ∃D,T-M=D:=⟨_,rfl⟩
 have hw4:Hid (wrap64 ((T:Int)-(M:Int))=(D:Int)):=CR (by omega) (by omega)
 obtain⟨K2,hK2⟩: ∃K2,K+1=K2:=⟨_,rfl⟩
 have uH:Hid (wrap64 ((K:Int)+1)=(K2:Int)):=CR (by omega) (by omega)
 have r_:=Fj (a:=D) (b:=K2) (by omega) (by omega)
 obtain⟨G,hG⟩: ∃G,D*K2=G:=⟨_,rfl⟩
 rw[hG]at r_
 have zV:Hid (wrap64 ((D:Int)*(K2:Int))=(G:Int)):=CR (by rw[<-Int.natCast_mul,hG]) (Nat.le_trans r_ (by decide))
 replace hG:=hid hG
 obtain⟨N,hN⟩: ∃N,P+G=N:=⟨_,rfl⟩
 have hw7:Hid (wrap64 ((P:Int)+(G:Int))=(N:Int)):=CR (by rw[<-hN,Int.natCast_add]) (by omega)
 have hmin:=VM N
 have HE:Hid (min 4001 (if(T:Int)= -1 then M*K+K+2 else M*K+((T:Int)-(M:Int)).toNat*(K+1))=min 4001 N):=by
  unfold Hid
  rw[if_neg (by omega),show((T:Int)-(M:Int)).toNat=D by omega,hP.out,hK2,hG.out,hN]
 have x0:(0:Int)<=(T:Int):=by omega
 rw[HE.out]
 clear HE
 have hc1:=hr.1
 have hc2:=hr.2
 have jG:=hid hmin
 replace x0:=hid x0
 clear hM hT
 clear h k1 C1 q1 Hy hr1 IH hK hS ZQ hP2 hP3 hr hmin hD hK2 r_ hN
 go_enter Tryz.func28,Tryz.ntmps28
 go_wp2_with (first
  |(refine AV (r:=⟨9,⟨#[]⟩,some ⟨g1,o1,none⟩,1,c,(M:Int),(T:Int)⟩) rfl (.tmp 0) rfl rfl ?_;intro w1 b1 e1 p1 l1 z1;have P1:=hid p1;have L1:=hid l1;have a0:=p1.c0;have a1:=p1.c1;have a2:=p1.c2;have a3:=p1.c3;have a4:=p1.c4;clear e1 p1 l1 z1;simp only at a0 a1 a2 a3 a4))
 go_loopg [3,4] 1 (fun gk s3 s4 wr=>s3= .int .i64 0/\s4= .int .i64 0/\wr=w1)
 case atStart=>exact⟨rfl,rfl,rfl⟩
 case round=>
  obtain⟨rfl,rfl,rfl⟩:=hrel
  go_wp2_with fail
  refine(HO.out _).mono ?_
  rintro e w2 ⟨rfl,l2⟩
  have RH:=hid (P1.out.below l2)
  have L2:=hid (L1.out.trans (l2.mono L1.out.size))
  have E2:Hid (∀j,j<5->w2.cell? ⟨g1,o1+j,none⟩=(Co rk)[j]?):=fun j hj=>(AO (L2.out.block g1 HG.out)).trans (E1.out j hj)
  have Q2:=hid (Q1.out.below L2.out)
  have a0:=RH.out.c0
  have a2:=RH.out.c2
  simp only at a0 a2
  clear l2
  go_wp2_with (first|(refine Aq rfl (.tmp 73) rfl rfl (r:=rk) E2.out ?_))
  refine(HI.out _ Q2.out).mono ?_
  rintro e w3 ⟨rfl,l3⟩
  rw[HK.out]
  have jH:=hid (RH.out.below l3)
  have L3:=hid (L2.out.trans (l3.mono L2.out.size))
  have a3:=jH.out.c3
  have a4:=jH.out.c4
  simp only at a3 a4
  clear l3
  replace hw1:=hw1.out
  replace hw2:=hw2.out
  replace hw3:=hw3.out
  replace hw4:=hw4.out
  replace uH:=uH.out
  replace zV:=zV.out
  replace hw7:=hw7.out
  replace x0:=x0.out
  go_wp2_with fail
  go_ret
  refine⟨?_,L3.out⟩
  first|rfl|exact congrArg (fun x=>Ending.returned (Value.int .i64 x)) jG.out
theorem LW (p:Piece): ∀(w:World) (r:Raw),Be w r p->Calls Tryz.prog 28 #[.agg (Ak r)] w (Sw w p):=by
 induction p using Bv.ind with
 |h k t ks m tp ih=>
  intro w r h
  have IH: ∀i (hi:i<ks.length) (w:World) (r:Raw),Be w r ks[i]->Calls Tryz.prog 28 #[.agg (Ak r)] w (Sw w ks[i]):=fun i hi=>ih ks[i] (List.getElem_mem hi)
  by_cases h1:1<=k/\k<=6
  ·exact XW h1 h
  by_cases h7:k=7
  ·subst h7;exact ZO IH h
  by_cases h8:k=8
  ·subst h8;exact ZP IH h
  by_cases h9:k=9
  ·subst h9
   cases ho:ZG t ks.length m tp with
   |false=>exact ZN ho h
   |true=>
    obtain⟨a1,a2,a3,a4⟩:=jA ho
    obtain⟨p,rfl⟩: ∃p,ks= [p]:=List.length_eq_one_iff.1 a1
    have ht:t=⟨#[]⟩:=jB a2
    subst ht
    obtain⟨M,rfl⟩: ∃M:Nat,m=(M:Int):=⟨m.toNat,by omega⟩
    have zW:=ih p (by simp)
    by_cases q:tp= -1
    ·subst q;exact XX (by omega) zW h
    obtain⟨T,rfl⟩: ∃T:Nat,tp=(T:Int):=⟨tp.toNat,by omega⟩
    exact XY (by omega) ⟨by omega,by omega⟩ zW h
  exact VN (by omega) h
end EH
namespace EH
open Strs Al Bv
open Cj (Piece size sizes)
open W14 (Raw Ea Ak Co DF FT Ad Be AV AU Aq AO)
open Kit (below_draws on)
def Sy (w:World) (P:List AL) (e:Ending) (w':World):Prop:= ∃v,e= .returned v/\w'.ownsRow w.heap.size 106 4 v P.length (P.flatMap CZ)/\Below w.heap.size w w'
def sD (p:Piece):Prop:= ∀(w:World) (r:Raw) (a:Nat),Be w r p->size p<=4000->a+size p<=8000->Calls Tryz.prog 79 #[.agg (Ak r),.int .i64 a] w (Sy w (steps p a))
structure St (w0 w:World) (b1:Nat) (r:Raw) (vo:Value) (L:List AL):Prop where
 own:w.ownsRow w0.heap.size 106 4 vo L.length (L.flatMap CZ)
 box:Ad w b1 r
 low:Below w0.heap.size w0 w
section
variable {w0 w w':World} {b1:Nat} {r:Raw} {vo v':Value} {L M:List AL}
theorem St.below (h:St w0 w b1 r vo L) (hb:Below w.heap.size w w'):St w0 w' b1 r vo L:=
 ⟨CE h.own fun k hk=>hb.block k (h.own.lt k hk).2,h.box.below hb,h.low.trans (hb.mono h.low.size)⟩
theorem jI {base c:Nat} (hp:Ad w c r) (h:w.ownsRow base 106 4 vo L.length (L.flatMap CZ)) (hg:Put vo v' w w'):Ad w' c r:=by
 obtain⟨-,-,-,-,g5⟩:=hg.grown
 refine(g5 c hp.lt fun q=> ?_).trans hp
 obtain⟨cur,h1⟩:=ED h q.symm
 have h2:w.heap[c]? =_:=hp
 rw[h1]at h2
 injection h2 with h2
 injection h2 with _ h2
 exact absurd h2 (by decide)
theorem St.put (h:St w0 w b1 r vo L) (ho:w'.ownsRow w0.heap.size 106 4 v' (L++M).length ((L++M).flatMap CZ)) (hp:Put vo v' w w'):St w0 w' b1 r v' (L++M):=by
 have g:=hp.grown
 refine⟨ho,jI h.box h.own hp,h.low.trans ⟨g.os,g.tape,g.output,g.size,fun k hk=>g.block k (Nat.lt_of_lt_of_le hk h.low.size) fun q=> ?_⟩⟩
 have:=(h.own.lt k q.symm).1
 omega
theorem St.form (h:St w0 w b1 r vo L): ∃A c,vo= .slice A L.length c/\L.length<=c/\c<=9223372036854775807:=by
 obtain⟨A,c,e,h1,h2⟩:=(Al.Bw BJ rfl h.own).form
 unfold maxLen at h2
 exact⟨A,c,e,h1,h2⟩
theorem St.gets (h:St w0 w b1 r vo L):Sy w0 L (.returned vo) w:=⟨vo,rfl,h.own,h.low⟩
theorem St.start (hb:Ad w b1 r) (hl:Below w0.heap.size w0 w):St w0 w b1 r (.slice none 0 0) []:=⟨World.ownsRow_nil _ _ _ _,hb,hl⟩
end
theorem jJ {w0 w:World} {A:Option Addr} {c:Nat} {Ag:List Raw} {ks:List Piece} (h:W14.Kids w0 A c Ag ks) (hl:Below w0.heap.size w0 w):W14.Kids w A c Ag ks:=h.below hl
theorem KU {p:Piece} (h:Bv.Good p) (w:World) (r:Raw) (hl:Be w r p):Calls Tryz.prog 28 #[.agg (Ak r)] w fun e w'=>e= .returned (.int .i64 (size p))/\Below w.heap.size w w':=
 (LW p w r hl).mono fun e w' q=>by
  have:=q.1
  rw[RG h]at this
  exact⟨this,q.2⟩
theorem jK {k:Int} (hk:1<=k/\k<=6) (t:ByteArray):sD (Cj.leaf k t):=by
 intro w r a h _ ha
 rw[Gp hk]
 unfold Cj.leaf at h
 obtain⟨A,c,Ag,rfl,k1⟩:=h.parts
 have hw:wrap64 ((a:Int)+1)=((a+1:Nat):Int):=by unfold wrap64;omega
 obtain⟨n,hn⟩: ∃n,a+1=n:=⟨_,rfl⟩
 unfold one
 rw[hn]at hw ⊢
 clear h k1 ha hn
 simp only[List.length_nil]
 have:k=1\/k=2\/k=3\/k=4\/k=5\/k=6:=by omega
 clear hk
 rcases this with rfl|rfl|rfl|rfl|rfl|rfl
 ·rw[if_pos rfl]
  go_enter Tryz.func79,Tryz.ntmps79
  go_wp2_with (first
   |(refine AV (r:=⟨1,t,A,0,c,0,0⟩) rfl (.tmp 0) rfl rfl ?_;intro w1 b1 e1 p1 l1 z1;have P1:=hid p1;have a0:=p1.c0;have L1:=hid l1;clear e1 p1 l1 z1;simp only at a0))
  go_ret
  exact(St.start P1.out L1.out).gets
 ·have hone:(if(2:Int)=1 then([]:List AL)else[(⟨2-1,if(2:Int)=2\/(2:Int)=4 then t else no,(n:Nat),0⟩:AL)])= [⟨1,t,(n:Nat),0⟩]:=rfl
  rw[hone]
  clear hone
  go_enter Tryz.func79,Tryz.ntmps79
  go_wp2_with (first
   |(refine AV (r:=⟨2,t,A,0,c,0,0⟩) rfl (.tmp 0) rfl rfl ?_;intro w1 b1 e1 p1 l1 z1;have a0:=p1.c0;have a1:=p1.c1;have L1:=hid l1;clear e1 p1 l1 z1;simp only at a0 a1)
   |(refine C_ (r:=⟨1,t,(n:Nat),0⟩) rfl (.tmp 23) rfl rfl ?_;intro w2 b2 e2 p2 l2 z2 o2;have L2:=hid l2;have O2:=hid o2;clear e2 p2 l2 z2 o2))
  go_ret
  exact⟨_,rfl,O2.out.mono L1.out.size,on L1.out L2.out⟩
 ·have hone:(if(3:Int)=1 then([]:List AL)else[(⟨3-1,if(3:Int)=2\/(3:Int)=4 then t else no,(n:Nat),0⟩:AL)])= [⟨2,⟨#[]⟩,(n:Nat),0⟩]:=rfl
  rw[hone]
  clear hone
  go_enter Tryz.func79,Tryz.ntmps79
  go_wp2_with (first
   |(refine AV (r:=⟨3,t,A,0,c,0,0⟩) rfl (.tmp 0) rfl rfl ?_;intro w1 b1 e1 p1 l1 z1;have a0:=p1.c0;have a1:=p1.c1;have L1:=hid l1;clear e1 p1 l1 z1;simp only at a0 a1)
   |(refine C_ (r:=⟨2,⟨#[]⟩,(n:Nat),0⟩) rfl (.tmp 29) rfl rfl ?_;intro w2 b2 e2 p2 l2 z2 o2;have L2:=hid l2;have O2:=hid o2;clear e2 p2 l2 z2 o2))
  go_ret
  exact⟨_,rfl,O2.out.mono L1.out.size,on L1.out L2.out⟩
 ·have hone:(if(4:Int)=1 then([]:List AL)else[(⟨4-1,if(4:Int)=2\/(4:Int)=4 then t else no,(n:Nat),0⟩:AL)])= [⟨3,t,(n:Nat),0⟩]:=rfl
  rw[hone]
  clear hone
  go_enter Tryz.func79,Tryz.ntmps79
  go_wp2_with (first
   |(refine AV (r:=⟨4,t,A,0,c,0,0⟩) rfl (.tmp 0) rfl rfl ?_;intro w1 b1 e1 p1 l1 z1;have a0:=p1.c0;have a1:=p1.c1;have L1:=hid l1;clear e1 p1 l1 z1;simp only at a0 a1)
   |(refine C_ (r:=⟨3,t,(n:Nat),0⟩) rfl (.tmp 37) rfl rfl ?_;intro w2 b2 e2 p2 l2 z2 o2;have L2:=hid l2;have O2:=hid o2;clear e2 p2 l2 z2 o2))
  go_ret
  exact⟨_,rfl,O2.out.mono L1.out.size,on L1.out L2.out⟩
 ·have hone:(if(5:Int)=1 then([]:List AL)else[(⟨5-1,if(5:Int)=2\/(5:Int)=4 then t else no,(n:Nat),0⟩:AL)])= [⟨4,⟨#[]⟩,(n:Nat),0⟩]:=rfl
  rw[hone]
  clear hone
  go_enter Tryz.func79,Tryz.ntmps79
  go_wp2_with (first
   |(refine AV (r:=⟨5,t,A,0,c,0,0⟩) rfl (.tmp 0) rfl rfl ?_;intro w1 b1 e1 p1 l1 z1;have a0:=p1.c0;have a1:=p1.c1;have L1:=hid l1;clear e1 p1 l1 z1;simp only at a0 a1)
   |(refine C_ (r:=⟨4,⟨#[]⟩,(n:Nat),0⟩) rfl (.tmp 43) rfl rfl ?_;intro w2 b2 e2 p2 l2 z2 o2;have L2:=hid l2;have O2:=hid o2;clear e2 p2 l2 z2 o2))
  go_ret
  exact⟨_,rfl,O2.out.mono L1.out.size,on L1.out L2.out⟩
 have hone:(if(6:Int)=1 then([]:List AL)else[(⟨6-1,if(6:Int)=2\/(6:Int)=4 then t else no,(n:Nat),0⟩:AL)])= [⟨5,⟨#[]⟩,(n:Nat),0⟩]:=rfl
 rw[hone]
 clear hone
 go_enter Tryz.func79,Tryz.ntmps79
 go_wp2_with (first
  |(refine AV (r:=⟨6,t,A,0,c,0,0⟩) rfl (.tmp 0) rfl rfl ?_;intro w1 b1 e1 p1 l1 z1;have a0:=p1.c0;have a1:=p1.c1;have L1:=hid l1;clear e1 p1 l1 z1;simp only at a0 a1)
  |(refine C_ (r:=⟨5,⟨#[]⟩,(n:Nat),0⟩) rfl (.tmp 49) rfl rfl ?_;intro w2 b2 e2 p2 l2 z2 o2;have L2:=hid l2;have O2:=hid o2;clear e2 p2 l2 z2 o2))
 go_ret
 exact⟨_,rfl,O2.out.mono L1.out.size,on L1.out L2.out⟩
theorem oH {t:ByteArray} {ks:List Piece} {m tp:Int} (IH: ∀i (hi:i<ks.length),sD ks[i]) (hs: ∀q,q∈ks-> ∀a,(steps q a).length=size q) {w:World} {r:Raw} {a:Nat} (h:Be w r (.mk 7 t ks m tp)) (hz:sizes ks<=4000) (ha:a+sizes ks<=8000):
    Calls Tryz.prog 79 #[.agg (Ak r),.int .i64 a] w (Sy w (Dw ks a)):=by
 obtain⟨A,c,Ag,rfl,k1⟩:=h.parts
 have HI:=hid IH
 have HS:=hid hs
 have HZ:=hid hz
 have HA:=hid ha
 have HR:=hid k1.room
 have K0:=hid k1
 clear h k1 IH hs hz ha
 go_enter Tryz.func79,Tryz.ntmps79
 go_wp2_with (first
  |(refine AV (r:=⟨7,t,A,ks.length,c,m,tp⟩) rfl (.tmp 0) rfl rfl ?_;intro w1 b1 e1 p1 l1 z1;have a0:=p1.c0;have P1:=hid p1;have L1:=hid l1;clear e1 p1 l1 z1;simp only at a0))
 clear a0
 go_loopg [5,6] ks.length (fun gk s5 s6 wr=> ∃(i:Nat) (vo:Value),s5=vo/\s6= .int .i64 i/\Hid (i+gk=ks.length)/\Hid (St w wr b1 ⟨7,t,A,ks.length,c,m,tp⟩ vo (Dw (ks.take i) a)))
 case atStart=>exact⟨0,.slice none 0 0,rfl,rfl,by unfold Hid;omega,by unfold Hid;simp only[List.take_zero,Dw];exact .start P1.out L1.out⟩
 case round=>
  obtain⟨i,vo,rfl,rfl,hig,SS⟩:=hrel
  have a2:=SS.out.box.c2
  simp only at a2
  have hn1:=HR.out.1
  have hn2:=HR.out.2
  by_cases hi:i<ks.length
  ·have ti:(i:Int)<(ks.length:Int):=by omega
   have KK:=jJ K0.out SS.out.low
   obtain⟨g1,o1,rfl,C1⟩:=KK.at_ (Nat.lt_of_le_of_lt (Nat.zero_le _) hi)
   obtain⟨hr1,q1⟩:=KK.kid hi
   have E1:=hid (C1 i hr1)
   obtain⟨rk,Hy⟩: ∃rk,Ag[i]'hr1=rk:=⟨_,rfl⟩
   rw[Hy]at E1 q1
   have Ou:=Km HS.out i a
   have hln:=HS.out _ (List.getElem_mem hi)
   have hnx:=Qq hi
   have hle:=Cz ks (i+1)
   have hz:=HZ.out
   have hb:=HA.out
   have qJ:=fun S=>UF HS.out hi (a:=S)
   have sF:=HI.out i hi wr rk
   obtain⟨p,hp⟩: ∃p,ks[i]'hi=p:=⟨_,rfl⟩
   rw[hp]at hln hnx sF qJ
   obtain⟨N,hN⟩: ∃N,sizes (ks.take i)=N:=⟨_,rfl⟩
   rw[hN]at Ou hnx qJ
   obtain⟨N2,J2⟩: ∃N2,sizes (ks.take (i+1))=N2:=⟨_,rfl⟩
   rw[J2]at hnx hle
   obtain⟨Z,hZ⟩: ∃Z,sizes ks=Z:=⟨_,rfl⟩
   rw[hZ]at hle hz hb
   obtain⟨s,hs⟩: ∃s,size p=s:=⟨_,rfl⟩
   rw[hs]at hnx hln
   obtain⟨S,mO⟩: ∃S,a+N=S:=⟨_,rfl⟩
   have ZR:=sF S (hp▸q1)
   rw[hs]at ZR
   clear hN J2 hZ hs
   have hw:wrap64 ((a:Int)+(N:Int))=(S:Int):=by clear Ou hln sF ZR qJ;unfold wrap64;omega
   have HC:=hid (ZR (by clear Ou hln sF ZR qJ hw;omega) (by clear Ou hln sF ZR qJ hw;omega))
   have HX:Hid (Dw (ks.take (i+1)) a=Dw (ks.take i) a++steps p S):=by unfold Hid;rw[qJ a,mO]
   have HL:Hid ((Dw (ks.take i) a).length+(steps p S).length<=1000000):=by unfold Hid;rw[Ou,hln S];clear Ou hln sF ZR qJ hw HC HX;omega
   obtain⟨Ao,co,rfl,LX,XZ⟩:=SS.out.form
   rw[Ou]at LX SS ⊢
   have DT:Hid (wrap64 ((i:Int)+1)=((i+1:Nat):Int)):=by unfold Hid wrap64;omega
   have HI2:=hid hi
   have zX:=hid (show N<=co/\co<=9223372036854775807 from⟨LX,XZ⟩)
   clear C1 q1 Hy Ou hln hnx hle mO KK hz hb qJ sF ZR hp LX XZ
   have hc3:=zX.out.1
   have hc4:=zX.out.2
   clear hi
   go_wp2_with (first|(refine Aq rfl (.tmp 64) rfl rfl (r:=rk) E1.out ?_))
   refine HC.out.mono ?_
   rintro e w2 ⟨vs,rfl,o2,l2⟩
   have S2:=hid (SS.out.below l2)
   have R2:=hid (Al.Bw BJ rfl o2)
   clear o2 l2 a2 hw
   go_wp2_with (first
    |(refine CU rfl (.tmp 60) (.tmp 70) rfl rfl rfl S2.out.own R2.out HL.out S2.out.low.size ?_;intro v3 w3 o3 p3;have S3:=hid (S2.out.put o3 p3);clear o3 p3))
   rw[<-HX.out]at S3
   cases gk with
   |zero=>exact absurd hig.out (by have:=HI2.out;omega)
   |succ g=>
    go_wp2_with fail
    go_roundg g
    case measure=>omega
    case rel=>exact⟨i+1,v3,rfl,by first|rfl|exact congrArg (Value.int .i64) DT.out,by have:=hig.out;unfold Hid;omega,S3⟩
  have ti: ¬(i:Int)<(ks.length:Int):=by omega
  have hie:i=ks.length:=by have:=hig.out;omega
  have S2:=SS.out
  rw[hie,List.take_length]at S2
  have SF:=hid S2
  clear hie hi S2
  go_wp2_with fail
  go_ret
  exact SF.out.gets
end EH
end Go.Proofs.YtfgegjinhkgpbaaGreatDoor
