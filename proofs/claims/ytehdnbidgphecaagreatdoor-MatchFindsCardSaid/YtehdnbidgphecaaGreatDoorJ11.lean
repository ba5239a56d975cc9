/-
  Texts joined, in build order, each with its own comment and its own conditions: W15Whole, W14RefSize, W14RefRep, W15GSize.
-/
import Derived.Test.YtehdnbidgphecaaGreatDoorTake
import Derived.Test.YtehdnbidgphecaaGreatDoorJ09
import Derived.Test.YtehdnbidgphecaaGreatDoorJ02
import Derived.Test.YtehdnbidgphecaaGreatDoorJ10
import Derived.Deep.LoopGhost
import Derived.Deep.RegionHeld3
import Derived.Lib.MinMax
namespace Go.Proofs.YtehdnbidgphecaaGreatDoor
set_option maxHeartbeats 4000000
set_option maxRecDepth 100000
open Go.RowKit
open Lib (hid)
namespace W15
open Strs Recs M15
open M13 (good has)
open M14 (Piece)
open W14 (Raw rawA rawC PAt PBox PLow box_arg load_piece load_at cell_block)
open Kit (below_draws on)
def Asks (f:Nat) (r:Raw) (v:Bool):Prop:= ∀w,Calls Tryz.prog f #[.agg (rawA r)] w fun e w'=>e= .returned (.bool v)∧Below w.heap.size w w'
theorem roft_any (k:Int) (t:ByteArray) (A:Option Addr) (n c:Nat) (m tp:Int) (hc:n≤c∧c≤9223372036854775807):Asks 21 ⟨k,t,A,n,c,m,tp⟩ (oft t n m tp):=by
 intro w
 have hc1:=hc.1
 have hc2:=hc.2
 clear hc
 unfold oft
 by_cases h1:n=1
 ·rw[decide_eq_true h1]
  subst h1
  by_cases h2:t.size=0
  ·rw[decide_eq_true h2]
   have te:=Kit.list_none (s:=t) (by omega)
   have te2:=Kit.list_nil (s:=t) (by omega)
   clear h2
   by_cases h3:0≤m
   ·rw[decide_eq_true h3]
    have x1: ¬m<0:=by omega
    by_cases h4:m≤100
    ·rw[decide_eq_true h4]
     have x2: ¬100<m:=by omega
     by_cases h5:tp≤100
     ·rw[decide_eq_true h5]
      have x3: ¬100<tp:=by omega
      clear h3 h4 h5
      by_cases h6:tp= -1
      ·rw[decide_eq_true h6]
       subst h6
       go_enter Tryz.func21,Tryz.ntmps21
       go_wp2_with (first
        |(refine box_arg (r:=⟨k,t,A,1,c,m,-1⟩) rfl (.tmp 0) rfl rfl ?_;intro w1 b1 e1 p1 l1 z1;have a1:=p1.c1;have a2:=p1.c2;have a3:=p1.c3;have a4:=p1.c4;have L1:=hid l1;clear e1 p1 l1 z1;simp only at a1 a2 a3 a4))
       go_ret
       exact⟨rfl,L1.out⟩
      ·rw[decide_eq_false h6]
       have x4:(tp== -1)=false:=by simpa using h6
       clear h6
       by_cases h7:m≤tp
       ·rw[decide_eq_true h7]
        go_enter Tryz.func21,Tryz.ntmps21
        go_wp2_with (first
         |(refine box_arg (r:=⟨k,t,A,1,c,m,tp⟩) rfl (.tmp 0) rfl rfl ?_;intro w1 b1 e1 p1 l1 z1;have a1:=p1.c1;have a2:=p1.c2;have a3:=p1.c3;have a4:=p1.c4;have L1:=hid l1;clear e1 p1 l1 z1;simp only at a1 a2 a3 a4))
        go_ret
        exact⟨rfl,L1.out⟩
       ·rw[decide_eq_false h7]
        go_enter Tryz.func21,Tryz.ntmps21
        go_wp2_with (first
         |(refine box_arg (r:=⟨k,t,A,1,c,m,tp⟩) rfl (.tmp 0) rfl rfl ?_;intro w1 b1 e1 p1 l1 z1;have a1:=p1.c1;have a2:=p1.c2;have a3:=p1.c3;have a4:=p1.c4;have L1:=hid l1;clear e1 p1 l1 z1;simp only at a1 a2 a3 a4))
        go_ret
        exact⟨rfl,L1.out⟩
     ·rw[decide_eq_false h5]
      have x3:100<tp:=by omega
      clear h3 h4 h5
      rw[show(true&&true&&true&&true&&false&&(decide (tp= -1)||decide (m≤tp)))=false from rfl]
      go_enter Tryz.func21,Tryz.ntmps21
      go_wp2_with (first
       |(refine box_arg (r:=⟨k,t,A,1,c,m,tp⟩) rfl (.tmp 0) rfl rfl ?_;intro w1 b1 e1 p1 l1 z1;have a1:=p1.c1;have a2:=p1.c2;have a3:=p1.c3;have a4:=p1.c4;have L1:=hid l1;clear e1 p1 l1 z1;simp only at a1 a2 a3 a4))
      go_ret
      exact⟨rfl,L1.out⟩
    ·rw[decide_eq_false h4]
     have x2:100<m:=by omega
     clear h3 h4
     rw[show(true&&true&&true&&false&&decide (tp≤100)&&(decide (tp= -1)||decide (m≤tp)))=false from rfl]
     go_enter Tryz.func21,Tryz.ntmps21
     go_wp2_with (first
      |(refine box_arg (r:=⟨k,t,A,1,c,m,tp⟩) rfl (.tmp 0) rfl rfl ?_;intro w1 b1 e1 p1 l1 z1;have a1:=p1.c1;have a2:=p1.c2;have a3:=p1.c3;have a4:=p1.c4;have L1:=hid l1;clear e1 p1 l1 z1;simp only at a1 a2 a3 a4))
     go_ret
     exact⟨rfl,L1.out⟩
   ·rw[decide_eq_false h3]
    have x1:m<0:=by omega
    clear h3
    rw[show(true&&true&&false&&decide (m≤100)&&decide (tp≤100)&&(decide (tp= -1)||decide (m≤tp)))=false from rfl]
    go_enter Tryz.func21,Tryz.ntmps21
    go_wp2_with (first
     |(refine box_arg (r:=⟨k,t,A,1,c,m,tp⟩) rfl (.tmp 0) rfl rfl ?_;intro w1 b1 e1 p1 l1 z1;have a1:=p1.c1;have a2:=p1.c2;have a3:=p1.c3;have a4:=p1.c4;have L1:=hid l1;clear e1 p1 l1 z1;simp only at a1 a2 a3 a4))
    go_ret
    exact⟨rfl,L1.out⟩
  ·rw[decide_eq_false h2]
   have te:=Kit.list_full (s:=t) (by omega)
   have te2:=Kit.list_ne (s:=t) (by omega)
   clear h2
   rw[show(true&&false&&decide (0≤m)&&decide (m≤100)&&decide (tp≤100)&&(decide (tp= -1)||decide (m≤tp)))=false from rfl]
   go_enter Tryz.func21,Tryz.ntmps21
   go_wp2_with (first
    |(refine box_arg (r:=⟨k,t,A,1,c,m,tp⟩) rfl (.tmp 0) rfl rfl ?_;intro w1 b1 e1 p1 l1 z1;have a1:=p1.c1;have a2:=p1.c2;have a3:=p1.c3;have a4:=p1.c4;have L1:=hid l1;clear e1 p1 l1 z1;simp only at a1 a2 a3 a4))
   go_ret
   exact⟨rfl,L1.out⟩
 ·rw[decide_eq_false h1]
  have tn:((n:Int) !=1)=true:=by simp;omega
  clear h1
  rw[show(false&&decide (t.size=0)&&decide (0≤m)&&decide (m≤100)&&decide (tp≤100)&&(decide (tp= -1)||decide (m≤tp)))=false from rfl]
  go_enter Tryz.func21,Tryz.ntmps21
  go_wp2_with (first
   |(refine box_arg (r:=⟨k,t,A,n,c,m,tp⟩) rfl (.tmp 0) rfl rfl ?_;intro w1 b1 e1 p1 l1 z1;have a1:=p1.c1;have a2:=p1.c2;have a3:=p1.c3;have a4:=p1.c4;have L1:=hid l1;clear e1 p1 l1 z1;simp only at a1 a2 a3 a4))
  go_ret
  exact⟨rfl,L1.out⟩
set_option maxHeartbeats 16000000 in
theorem rwhole_mk {k:Int} {t:ByteArray} {ks:List Piece} {m tp:Int} (IH: ∀i (hi:i<ks.length) (w:World) (r:Raw),PLow w r ks[i]→Calls Tryz.prog 50 #[.agg (rawA r)] w fun e w'=>e= .returned (.bool (gwhole ks[i]))∧Below w.heap.size w w') {w:World} {r:Raw} (h:PLow w r (.mk k t ks m tp)):
    Calls Tryz.prog 50 #[.agg (rawA r)] w fun e w'=>e= .returned (.bool (gwhole (.mk k t ks m tp)))∧Below w.heap.size w w':=by
 rw[gwhole_mk]
 obtain⟨A,c,raws,rfl,k1⟩:=h.parts
 have HI:=hid IH
 have HR:=hid k1.room
 have K1:=hid k1
 obtain⟨V,hV⟩: ∃V,(ks.all gwhole&&own k t ks.length m tp)=V:=⟨_,rfl⟩
 rw[hV]
 have HV:=hid hV
 have HO:=hid (roft_any k t A ks.length c m tp k1.room)
 unfold Asks at HO
 clear h k1 IH hV
 go_enter Tryz.func50,Tryz.ntmps50
 go_wp2_with (first
  |(refine box_arg (r:=⟨k,t,A,ks.length,c,m,tp⟩) rfl (.tmp 0) rfl rfl ?_;intro w1 b1 e1 p1 l1 z1;have P1:=hid p1;have L1:=hid l1;clear e1 p1 l1 z1))
 have K1:=hid (K1.out.below L1.out)
 go_loopg [3] ks.length (fun gk s3 wr=> ∃i:Nat,s3= .int .i64 i∧Hid (i+gk=ks.length)∧Hid ((ks.take i).all gwhole=true)∧Hid (PBox wr b1 ⟨k,t,A,ks.length,c,m,tp⟩)∧Hid (W14.Kids wr A c raws ks)∧Hid (Below w.heap.size w wr))
 case atStart=>exact⟨0,rfl,by unfold Hid;omega,by unfold Hid;simp,P1,K1,L1⟩
 case round=>
  obtain⟨i,rfl,hig,HALL,P1,K1,HB⟩:=hrel
  have a0:=P1.out.c0
  have a1:=P1.out.c1
  have a2:=P1.out.c2
  have a3:=P1.out.c3
  have a4:=P1.out.c4
  simp only at a0 a1 a2 a3 a4
  have hn1:=HR.out.1
  have hn2:=HR.out.2
  by_cases hi:i<ks.length
  ·have ti:(i:Int)<(ks.length:Int):=by omega
   obtain⟨g1,o1,rfl,C1⟩:=K1.out.at_ (Nat.lt_of_le_of_lt (Nat.zero_le _) hi)
   obtain⟨hr1,q1⟩:=K1.out.kid hi
   have E1:=hid (C1 i hr1)
   obtain⟨rk,hrk⟩: ∃rk,raws[i]'hr1=rk:=⟨_,rfl⟩
   rw[hrk]at E1 q1
   have HC:=hid (HI.out i hi wr rk q1)
   have HAL:=hid (all_take (f:=gwhole) hi)
   have HNO:=hid (fun q=>all_no (f:=gwhole) hi q)
   obtain⟨q,hq⟩: ∃q,gwhole (ks[i]'hi)=q:=⟨_,rfl⟩
   rw[hq]at HC HAL HNO
   have HI2:=hid hi
   have hwi:Hid (wrap64 ((i:Int)+1)=((i+1:Nat):Int)):=by unfold Hid wrap64;omega
   clear C1 q1 hrk hq hi a0 a1 a3 a4
   go_wp2_with (first|(refine load_at rfl (.tmp 14) rfl rfl (r:=rk) E1.out ?_))
   refine HC.out.mono ?_
   rintro e w2 ⟨rfl,l2⟩
   have P2:=hid (P1.out.below l2)
   have K2:=hid (K1.out.below l2)
   have B2:=hid (HB.out.trans (l2.mono HB.out.size))
   clear l2 a2
   cases q with
   |false=>
    go_wp2_with fail
    go_ret
    exact⟨by rw[←HV.out,HNO.out (by first|rfl|trivial),Bool.false_and];rfl,B2.out⟩
   |true=>
    cases gk with
    |zero=>exact absurd hig.out (by have:=HI2.out;omega)
    |succ g=>
     go_wp2_with fail
     go_roundg g
     case measure=>omega
     case rel=>exact⟨i+1,by first|rfl|exact congrArg (Value.int .i64) hwi.out,by have:=hig.out;unfold Hid;omega,by unfold Hid;rw[HAL.out,HALL.out];rfl,P2,K2,B2⟩
  ·have ti: ¬(i:Int)<(ks.length:Int):=by omega
   have hie:i=ks.length:=by have:=hig.out;omega
   have HVV:Hid (V=own k t ks.length m tp):=by
    have:=HALL.out
    rw[hie,List.take_length]at this
    unfold Hid
    rw[←HV.out,this,Bool.true_and]
   clear hie hi
   obtain⟨n,hn⟩: ∃n,ks.length=n:=⟨_,rfl⟩
   rw[hn]at HVV HO a2 ti hn1 P1 ⊢
   clear hn
   by_cases h9:k=9
   ·have t9:(k==9)=true:=by simp[h9]
    have HW:Hid (V=oft t n m tp):=by unfold Hid;rw[HVV.out];unfold own;rw[if_pos h9]
    clear h9
    go_wp2_with (first|(refine load_piece (r:=⟨k,t,A,n,c,m,tp⟩) rfl (.tmp 1) rfl rfl P1.out ?_))
    refine(HO.out _).mono ?_
    rintro e w2 ⟨rfl,l2⟩
    have B2:=hid (HB.out.trans (l2.mono HB.out.size))
    clear l2
    go_wp2_with fail
    go_ret
    exact⟨by rw[HW.out];rfl,B2.out⟩
   ·have t9:(k==9)=false:=by simpa using h9
    by_cases hm:m=0
    ·have tm:(m !=0)=false:=by simp[hm]
     by_cases htp:tp=0
     ·have tt:(tp !=0)=false:=by simp[htp]
      have HW:Hid (V=if k=7∨k=8 then decide (1<n)&&decide (t.size=0)else decide (n=0)&&(if k=2 then decide (t.size=1)else if k=4 then good t.data.toList else decide (t.size=0)&&decide (k=1∨k=3∨k=5∨k=6))):=by
       unfold Hid;rw[HVV.out];unfold own;rw[if_neg h9,decide_eq_true hm,decide_eq_true htp,Bool.true_and,Bool.true_and]
      clear hm htp h9
      by_cases h7:k=7∨k=8
      ·rw[if_pos h7]at HW
       by_cases hz1:1<n
       ·rw[decide_eq_true hz1,Bool.true_and]at HW
        have tn:(1:Int)<(n:Int):=by omega
        clear hz1
        by_cases hz:t.size=0
        ·rw[decide_eq_true hz]at HW
         have te:=Kit.list_none (s:=t) (by omega)
         have te2:=Kit.list_nil (s:=t) (by omega)
         clear hz
         rcases h7 with h7|h7
         ·have t7:(k==7)=true:=by simp[h7]
          clear h7
          go_wp2_with fail
          go_ret
          exact⟨by rw[HW.out];rfl,HB.out⟩
         ·have t7:(k==7)=false:=by simp[h7]
          have t8:(k==8)=true:=by simp[h7]
          clear h7
          go_wp2_with fail
          go_ret
          exact⟨by rw[HW.out];rfl,HB.out⟩
        ·rw[decide_eq_false hz]at HW
         have te:=Kit.list_full (s:=t) (by omega)
         have te2:=Kit.list_ne (s:=t) (by omega)
         clear hz
         rcases h7 with h7|h7
         ·have t7:(k==7)=true:=by simp[h7]
          clear h7
          go_wp2_with fail
          go_ret
          exact⟨by rw[HW.out];rfl,HB.out⟩
         ·have t7:(k==7)=false:=by simp[h7]
          have t8:(k==8)=true:=by simp[h7]
          clear h7
          go_wp2_with fail
          go_ret
          exact⟨by rw[HW.out];rfl,HB.out⟩
       ·rw[decide_eq_false hz1,Bool.false_and]at HW
        have tn: ¬(1:Int)<(n:Int):=by omega
        clear hz1
        rcases h7 with h7|h7
        ·have t7:(k==7)=true:=by simp[h7]
         clear h7
         go_wp2_with fail
         go_ret
         exact⟨by rw[HW.out];rfl,HB.out⟩
        ·have t7:(k==7)=false:=by simp[h7]
         have t8:(k==8)=true:=by simp[h7]
         clear h7
         go_wp2_with fail
         go_ret
         exact⟨by rw[HW.out];rfl,HB.out⟩
      ·rw[if_neg h7]at HW
       have t7:(k==7)=false:=by simp;omega
       have t8:(k==8)=false:=by simp;omega
       clear h7
       by_cases hz0:n=0
       ·rw[decide_eq_true hz0,Bool.true_and]at HW
        have tn: ¬(0:Int)<(n:Int):=by omega
        clear hz0
        by_cases h2:k=2
        ·rw[if_pos h2]at HW
         have t2:(k==2)=true:=by simp[h2]
         clear h2
         by_cases hz:t.size=1
         ·rw[decide_eq_true hz]at HW
          have tz:((t.size:Int)==1)=true:=by simp[hz]
          clear hz
          go_wp2_with fail
          go_ret
          exact⟨by rw[HW.out];rfl,HB.out⟩
         ·rw[decide_eq_false hz]at HW
          have tz:((t.size:Int)==1)=false:=by simp;omega
          clear hz
          go_wp2_with fail
          go_ret
          exact⟨by rw[HW.out];rfl,HB.out⟩
        ·rw[if_neg h2]at HW
         have t2:(k==2)=false:=by simpa using h2
         by_cases h4:k=4
         ·rw[if_pos h4]at HW
          have t4:(k==4)=true:=by simp[h4]
          clear h2 h4
          have HU0:=fun w=>W13.refUnion_any t t w
          by_cases hz:good t.data.toList=true
          ·rw[hz]at HW
           rw[union_good hz]at HU0
           have HU:=hid HU0
           have tz:(t.toList==t.toList)=true:=by simp
           clear hz HU0
           have D4:=hid (below_draws wr 1)
           go_wp2_with fail
           refine wp_region_held_drew (S:=fun w'=>w'.cell? ⟨b1,1,none⟩=some (.string t)) (by kernel_rfl) P1.out.c1 (fun hHeld=> ?_)
           refine Take.k 0 ⟨some 62,.fieldAddr 25 (.tmp 1) 1,_,_,_,none⟩ ?_
           refine Take.k 1 ⟨some 63,.load 9 (.tmp 62),_,_,_,none⟩ ?_
           refine Take.k 2 ⟨some 64,.fieldAddr 25 (.tmp 1) 1,_,_,_,none⟩ ?_
           refine Take.k 3 ⟨some 65,.load 9 (.tmp 64),_,_,_,none⟩ ?_
           refine Take.k 5 ⟨some 67,.fieldAddr 25 (.tmp 1) 1,_,_,_,none⟩ ?_
           refine Take.k 6 ⟨some 68,.load 9 (.tmp 67),_,_,_,none⟩ ?_
           refine wpAnyH_ready (rs:= [4]) (by kernel_rfl) (by simp) ?_
           refine AllReadyH.cons (o:=⟨some 66,.call ⟨.value (.func 41), #[.tmp 63,.tmp 65], #[9,9]⟩,_,_,_,none⟩) rfl (fun K hK=> ?_) AllReadyH.nil
           go_simp
           (go_at_call 41;refine(HU.out _).mono ?_;rintro e x1 ⟨rfl,m1⟩;have LU:=hid (on D4.out m1);have PU:=hid (P1.out.below LU.out);clear m1)
           go_wp2_with fail
           refine hK.out _ _ ?_ (fun hHeld=> ?_)
           ·exact PU.out.c1
           clear hK K
           try simp only[Act.put,Take.a,Take.b,Take.c]
           refine Take.k 7 ⟨some 69,.binOp .eql 9 (.tmp 66) (.tmp 68) 9,_,_,_,none⟩ ?_
           refine Take.k 8 ⟨some 2,.assign (.tmp 69),_,_,_,none⟩ ?_
           refine wpAnyH_done (by kernel_rfl) ?_ _
           have B5:=hid (HB.out.trans (LU.out.mono HB.out.size))
           go_wp2_with fail
           go_ret
           exact⟨by rw[HW.out];first|rfl|simp[tz],B5.out⟩
          ·have hzf:good t.data.toList=false:=by simpa using hz
           rw[hzf]at HW
           have hne:=union_bad hzf
           obtain⟨u,hu⟩: ∃u,(W13.tx fun i=>has t.data.toList i||has t.data.toList i)=u:=⟨_,rfl⟩
           rw[hu]at HU0 hne
           have HU:=hid HU0
           have tz:(u.toList==t.toList)=false:=by
            have: ¬u.toList=t.toList:=fun q=>hne (Kit.ba_ext (by rw[←Lib.toList_data,←Lib.toList_data,q]))
            simpa using this
           clear hz hzf hne hu HU0
           have D4:=hid (below_draws wr 1)
           go_wp2_with fail
           refine wp_region_held_drew (S:=fun w'=>w'.cell? ⟨b1,1,none⟩=some (.string t)) (by kernel_rfl) P1.out.c1 (fun hHeld=> ?_)
           refine Take.k 0 ⟨some 62,.fieldAddr 25 (.tmp 1) 1,_,_,_,none⟩ ?_
           refine Take.k 1 ⟨some 63,.load 9 (.tmp 62),_,_,_,none⟩ ?_
           refine Take.k 2 ⟨some 64,.fieldAddr 25 (.tmp 1) 1,_,_,_,none⟩ ?_
           refine Take.k 3 ⟨some 65,.load 9 (.tmp 64),_,_,_,none⟩ ?_
           refine Take.k 5 ⟨some 67,.fieldAddr 25 (.tmp 1) 1,_,_,_,none⟩ ?_
           refine Take.k 6 ⟨some 68,.load 9 (.tmp 67),_,_,_,none⟩ ?_
           refine wpAnyH_ready (rs:= [4]) (by kernel_rfl) (by simp) ?_
           refine AllReadyH.cons (o:=⟨some 66,.call ⟨.value (.func 41), #[.tmp 63,.tmp 65], #[9,9]⟩,_,_,_,none⟩) rfl (fun K hK=> ?_) AllReadyH.nil
           go_simp
           (go_at_call 41;refine(HU.out _).mono ?_;rintro e x1 ⟨rfl,m1⟩;have LU:=hid (on D4.out m1);have PU:=hid (P1.out.below LU.out);clear m1)
           go_wp2_with fail
           refine hK.out _ _ ?_ (fun hHeld=> ?_)
           ·exact PU.out.c1
           clear hK K
           try simp only[Act.put,Take.a,Take.b,Take.c]
           refine Take.k 7 ⟨some 69,.binOp .eql 9 (.tmp 66) (.tmp 68) 9,_,_,_,none⟩ ?_
           refine Take.k 8 ⟨some 2,.assign (.tmp 69),_,_,_,none⟩ ?_
           refine wpAnyH_done (by kernel_rfl) ?_ _
           have B5:=hid (HB.out.trans (LU.out.mono HB.out.size))
           go_wp2_with fail
           go_ret
           exact⟨by rw[HW.out];first|rfl|simp[tz],B5.out⟩
         ·rw[if_neg h4]at HW
          have t4:(k==4)=false:=by simpa using h4
          by_cases hz:t.size=0
          ·rw[decide_eq_true hz,Bool.true_and]at HW
           have te:=Kit.list_none (s:=t) (by omega)
           have te2:=Kit.list_nil (s:=t) (by omega)
           clear hz
           by_cases k1:k=1
           ·rw[decide_eq_true (show k=1∨k=3∨k=5∨k=6 by omega)]at HW
            have u1:(k==1)=true:=by simp[k1]
            clear k1 h2 h4
            go_wp2_with fail
            go_ret
            exact⟨by rw[HW.out];rfl,HB.out⟩
           ·have u1:(k==1)=false:=by simpa using k1
            by_cases k3:k=3
            ·rw[decide_eq_true (show k=1∨k=3∨k=5∨k=6 by omega)]at HW
             have u3:(k==3)=true:=by simp[k3]
             clear k1 k3 h2 h4
             go_wp2_with fail
             go_ret
             exact⟨by rw[HW.out];rfl,HB.out⟩
            ·have u3:(k==3)=false:=by simpa using k3
             by_cases k5:k=5
             ·rw[decide_eq_true (show k=1∨k=3∨k=5∨k=6 by omega)]at HW
              have u5:(k==5)=true:=by simp[k5]
              clear k1 k3 k5 h2 h4
              go_wp2_with fail
              go_ret
              exact⟨by rw[HW.out];rfl,HB.out⟩
             ·have u5:(k==5)=false:=by simpa using k5
              by_cases k6:k=6
              ·rw[decide_eq_true (show k=1∨k=3∨k=5∨k=6 by omega)]at HW
               have u6:(k==6)=true:=by simp[k6]
               clear k1 k3 k5 k6 h2 h4
               go_wp2_with fail
               go_ret
               exact⟨by rw[HW.out];rfl,HB.out⟩
              ·have u6:(k==6)=false:=by simpa using k6
               rw[decide_eq_false (show¬(k=1∨k=3∨k=5∨k=6) by omega)]at HW
               clear k1 k3 k5 k6 h2 h4
               go_wp2_with fail
               go_ret
               exact⟨by rw[HW.out];rfl,HB.out⟩
          ·rw[decide_eq_false hz,Bool.false_and]at HW
           have te:=Kit.list_full (s:=t) (by omega)
           have te2:=Kit.list_ne (s:=t) (by omega)
           clear hz h2 h4
           go_wp2_with fail
           go_ret
           exact⟨by rw[HW.out];rfl,HB.out⟩
       ·rw[decide_eq_false hz0,Bool.false_and]at HW
        have tn:(0:Int)<(n:Int):=by omega
        clear hz0
        go_wp2_with fail
        go_ret
        exact⟨by rw[HW.out];rfl,HB.out⟩
     ·have tt:(tp !=0)=true:=by simpa using htp
      have HW:Hid (V=false):=by unfold Hid;rw[HVV.out];unfold own;rw[if_neg h9,decide_eq_true hm,decide_eq_false htp,Bool.true_and,Bool.false_and]
      clear hm htp h9
      go_wp2_with fail
      go_ret
      exact⟨by rw[HW.out];rfl,HB.out⟩
    ·have tm:(m !=0)=true:=by simpa using hm
     have HW:Hid (V=false):=by unfold Hid;rw[HVV.out];unfold own;rw[if_neg h9,decide_eq_false hm,Bool.false_and]
     clear hm h9
     go_wp2_with fail
     go_ret
     exact⟨by rw[HW.out];rfl,HB.out⟩
theorem rwhole_any (p:Piece): ∀(w:World) (r:Raw),PLow w r p→Calls Tryz.prog 50 #[.agg (rawA r)] w fun e w'=>e= .returned (.bool (gwhole p))∧Below w.heap.size w w':=by
 induction p using M15.ind with
 |h k t ks m tp ih=>exact fun w r h=>rwhole_mk (fun i hi=>ih ks[i] (List.getElem_mem hi)) h
end W15
namespace W14
open Strs Recs M14
open Kit (below_draws on)
theorem size_leaf {k:Int} (hk:k=1∨k=2∨k=3∨k=4∨k=5∨k=6) (t:ByteArray):size (M14.leaf k t)=if k=1 then 0 else 1:=by
 unfold M14.leaf size
 by_cases h1:k=1
 ·simp[h1]
 ·simp[h1,show 2≤k∧k≤6 by omega]
def SizeTo (w:World) (p:Piece) (e:Ending) (w':World):Prop:=e= .returned (.int .i64 (size p))∧Below w.heap.size w w'
theorem size_rep (p:Piece) (M:Nat) (t:Int):size (.mk 9 ⟨#[]⟩ [p] M t)=min 4001 (if t= -1 then M*size p+size p+2 else M*size p+(t-M).toNat*(size p+1)):=by
 have h1:sizes [p]=size p:=by simp[sizes]
 conv=>lhs;unfold size
 rw[if_neg (by decide),if_neg (by decide),if_neg (by decide),if_neg (by decide),h1,Int.toNat_natCast]
theorem mul_small {a b:Nat} (ha:a≤100) (hb:b≤4002):a*b≤400200:=Nat.le_trans (Nat.mul_le_mul ha hb) (by decide)
def Often (m t:Int):Prop:=(0≤m∧m≤100)∧(t= -1∨m≤t∧t≤100)
theorem roften_any {m t:Int} (h:Often m t) {A:Option Addr} {c:Nat} (hc:1≤c∧c≤9223372036854775807) (w:World):Calls Tryz.prog 21 #[.agg (rawA ⟨9,⟨#[]⟩,A,1,c,m,t⟩)] w fun e w'=>e= .returned (.bool true)∧Below w.heap.size w w':=by
 obtain⟨⟨hm0,hm1⟩,ht⟩:=h
 have hc1:=hc.1
 have hc2:=hc.2
 have x1: ¬m<0:=by omega
 have x2: ¬100<m:=by omega
 have x3: ¬100<t:=by omega
 by_cases q:t= -1
 ·subst q
  clear hc x3 hm0 hm1 ht
  go_enter Tryz.func21,Tryz.ntmps21
  go_wp2_with (first
   |(refine box_arg (r:=⟨9,⟨#[]⟩,A,1,c,m,-1⟩) rfl (.tmp 0) rfl rfl ?_;intro w1 b1 e1 p1 l1 z1;have a1:=p1.c1;have a2:=p1.c2;have a3:=p1.c3;have a4:=p1.c4;have L1:=hid l1;clear e1 p1 l1 z1;simp only at a1 a2 a3 a4))
  go_ret
  exact⟨rfl,L1.out⟩
 ·have x4:(t== -1)=false:=by simpa using q
  have x5:m≤t:=by omega
  clear hc hm0 hm1 ht q
  go_enter Tryz.func21,Tryz.ntmps21
  go_wp2_with (first
   |(refine box_arg (r:=⟨9,⟨#[]⟩,A,1,c,m,t⟩) rfl (.tmp 0) rfl rfl ?_;intro w1 b1 e1 p1 l1 z1;have a1:=p1.c1;have a2:=p1.c2;have a3:=p1.c3;have a4:=p1.c4;have L1:=hid l1;clear e1 p1 l1 z1;simp only at a1 a2 a3 a4))
  go_ret
  exact⟨rfl,L1.out⟩
end W14
namespace W14
open Strs Recs M14
open Kit (below_draws on)
theorem wrap_nat {a:Int} {n:Nat} (h:a=(n:Int)) (hn:n≤4000000):wrap64 a=(n:Int):=by subst h;unfold wrap64;omega
theorem min_nat (n:Nat):min (n:Int) 4001=((min 4001 n:Nat):Int):=by omega
end W14
namespace M15
open Go M14
mutual
def gsize:Piece→Nat
 | .mk k t ks m tp=>min 4001 (if k=1 then 0 else if 2≤k∧k≤6 then 1 else if k=7 then gsizes ks else if k=8 then gsizes ks+2*(ks.length-1)else if k=9∧oft t ks.length m tp=true then(if tp= -1 then m.toNat*gsizes ks+gsizes ks+2 else m.toNat*gsizes ks+(tp-m).toNat*(gsizes ks+1))else 4001)
def gsizes:List Piece→Nat
 | []=>0
 |p::l=>gsize p+gsizes l
end
theorem gsize_le (p:Piece):gsize p≤4001:=by
 match p with
 | .mk k t l a b=>unfold gsize;exact Nat.min_le_left _ _
theorem gsizes_append (l m:List Piece):gsizes (l++m)=gsizes l+gsizes m:=by
 induction l with
 |nil=>simp[gsizes]
 |cons p l ih=>rw[List.cons_append,gsizes,ih,gsizes];omega
theorem gsizes_take {l:List Piece} {i:Nat} (h:i<l.length):gsizes (l.take (i+1))=gsizes (l.take i)+gsize l[i]:=by
 rw[List.take_succ_eq_append_getElem h,gsizes_append]
 simp[gsizes]
def gcnt (k:Int) (ks:List Piece) (i:Nat):Nat:=min (gsizes (ks.take i)+(if k=8 then 2*(i-1)else 0)) 4001
theorem gsize_many {k:Int} (hk:k=7∨k=8) (t:ByteArray) (ks:List Piece) (l tp:Int):gsize (.mk k t ks l tp)=gcnt k ks ks.length:=by
 unfold gsize gcnt
 rw[List.take_length]
 rcases hk with rfl|rfl
 ·rw[if_neg (by decide),if_neg (by decide),if_pos rfl,if_neg (by decide)];omega
 ·rw[if_neg (by decide),if_neg (by decide),if_neg (by decide),if_pos rfl,if_pos rfl];omega
theorem gcnt_le (k:Int) (ks:List Piece) (i:Nat):gcnt k ks i≤4001:=Nat.min_le_right _ _
theorem gcnt_7 {ks:List Piece} {i n m:Nat} (hi:i<ks.length) (hn:gcnt 7 ks i=n) (hm:gsize (ks[i]'hi)=m):gcnt 7 ks (i+1)=min (n+m) 4001:=by
 subst hn hm
 unfold gcnt
 rw[if_neg (by decide),if_neg (by decide),gsizes_take hi];omega
theorem gcnt_8 {ks:List Piece} {i n m:Nat} (hi:i<ks.length) (hn:gcnt 8 ks i=n) (hm:gsize (ks[i]'hi)=m):gcnt 8 ks (i+1)=min (n+m+(if 0<i then 2 else 0)) 4001:=by
 subst hn hm
 unfold gcnt
 rw[if_pos rfl,if_pos rfl,gsizes_take hi]
 by_cases h:0<i
 ·rw[if_pos h];omega
 ·rw[if_neg h]
  obtain rfl:i=0:=by omega
  simp only[List.take_zero,Nat.mul_zero,Nat.add_zero,Nat.zero_sub,Nat.zero_add,Nat.sub_self]
  omega
theorem gsize_1 {k:Int} (hk:1≤k∧k≤6) (t:ByteArray) (ks:List Piece) (m tp:Int):gsize (.mk k t ks m tp)=if k=1 then 0 else 1:=by
 unfold gsize
 by_cases h1:k=1
 ·simp[h1]
 ·simp[h1,show 2≤k∧k≤6 by omega]
theorem gsize_no {k:Int} (hk: ¬(1≤k∧k≤9)) (t:ByteArray) (ks:List Piece) (m tp:Int):gsize (.mk k t ks m tp)=4001:=by
 unfold gsize
 rw[if_neg (by omega),if_neg (by omega),if_neg (by omega),if_neg (by omega),if_neg (by omega)];rfl
theorem gsize_not {t:ByteArray} {ks:List Piece} {m tp:Int} (h:oft t ks.length m tp=false):gsize (.mk 9 t ks m tp)=4001:=by
 unfold gsize
 rw[if_neg (by decide),if_neg (by decide),if_neg (by decide),if_neg (by decide),if_neg (by simp[h])];rfl
theorem gsize_rep (p:Piece) (M:Nat) (t:Int) (h:oft ⟨#[]⟩ 1 M t=true):gsize (.mk 9 ⟨#[]⟩ [p] M t)=min 4001 (if t= -1 then M*gsize p+gsize p+2 else M*gsize p+(t-M).toNat*(gsize p+1)):=by
 have h1:gsizes [p]=gsize p:=by simp[gsizes]
 have h2:oft ⟨#[]⟩ [p].length M t=true:=h
 conv=>lhs;unfold gsize
 rw[if_neg (by decide),if_neg (by decide),if_neg (by decide),if_neg (by decide),if_pos ⟨rfl,h2⟩,h1,Int.toNat_natCast]
theorem oft_of {M:Nat} {t:Int} (hM:M≤100) (ht:t= -1∨(M:Int)≤t∧t≤100):oft ⟨#[]⟩ 1 M t=true:=by
 unfold oft
 have h0:(⟨#[]⟩:ByteArray).size=0:=rfl
 rw[decide_eq_true h0,decide_eq_true (show(1:Nat)=1 from rfl),decide_eq_true (show(0:Int)≤M by omega),decide_eq_true (show(M:Int)≤100 by omega),decide_eq_true (show t≤100 by omega)]
 by_cases q:t= -1
 ·rw[decide_eq_true q];rfl
 ·rw[decide_eq_false q,decide_eq_true (show(M:Int)≤t by omega)];rfl
theorem gsizes_eq: ∀ {l:List Piece},(∀p,p∈l→gsize p=size p)→gsizes l=sizes l
 | [],_=>by simp[gsizes,sizes]
 |p::l,h=>by rw[gsizes,sizes,h p (by simp),gsizes_eq (fun q hq=>h q (by simp[hq]))]
theorem gsize_eq {p:Piece} (h:Good p):gsize p=size p:=by
 induction h with
 |leaf k t h=>rw[size_1 h];exact gsize_1 h _ _ _ _
 |many k hk ks h2 hw ih=>
  unfold gsize size
  rw[gsizes_eq ih]
  rcases hk with rfl|rfl
  ·rfl
  ·rfl
 |rep p m t hm ht hw ih=>
  obtain⟨M,rfl⟩: ∃M:Nat,m=(M:Int):=⟨m.toNat,by omega⟩
  have h1:=gsize_rep p M t (oft_of (by omega) ht)
  have h2:=size_9 no p (M:Int) t
  rw[show(⟨#[]⟩:ByteArray)=no from rfl,ih]at h1
  rw[Int.toNat_natCast]at h2
  rw[h1,h2]
end M15
namespace W15
open Strs Recs M15
open M14 (Piece)
open W14 (Raw rawA rawC PAt PBox PLow box_arg load_piece load_at cell_block wrap_nat min_nat mul_small roften_any)
open Kit (below_draws on)
abbrev Kids (w:World) (A:Option Addr) (c:Nat) (raws:List Raw) (ks:List Piece):Prop:=W14.Kids w A c raws ks
def GTo (w:World) (p:Piece) (e:Ending) (w':World):Prop:=e= .returned (.int .i64 (gsize p))∧Below w.heap.size w w'
theorem rgsize_leaf {k:Int} (hk:1≤k∧k≤6) {t:ByteArray} {ks:List Piece} {l tp:Int} {w:World} {r:Raw} (h:PLow w r (.mk k t ks l tp)):Calls Tryz.prog 8 #[.agg (rawA r)] w (GTo w (.mk k t ks l tp)):=by
 unfold GTo
 rw[gsize_1 hk]
 obtain⟨A,c,raws,rfl,k1⟩:=h.parts
 have r1:=k1.room
 have hc1:=r1.1
 have hc2:=r1.2
 obtain⟨n,hn⟩: ∃n,ks.length=n:=⟨_,rfl⟩
 rw[hn]at hc1 ⊢
 clear h k1 r1 hn
 have:k=1∨k=2∨k=3∨k=4∨k=5∨k=6:=by omega
 by_cases h0:0<n
 ·have t0:(0:Int)<(n:Int):=by omega
  clear h0 hk
  rcases this with rfl|rfl|rfl|rfl|rfl|rfl
  all_goals
   go_enter Tryz.func8,Tryz.ntmps8
   go_wp2_with (first
    |(refine box_arg rfl (.tmp 0) rfl rfl ?_;intro w1 b1 e1 p1 l1 z1;have a0:=p1.c0;have a2:=p1.c2;have L1:=hid l1;clear e1 p1 l1 z1;simp only at a0 a2))
   go_loopg [3,4] 1 (fun gk s3 s4 wr=>s3= .int .i64 0∧s4= .int .i64 0∧wr=w1)
   case atStart=>exact⟨rfl,rfl,rfl⟩
   case round=>
    obtain⟨rfl,rfl,rfl⟩:=hrel
    go_wp2_with fail
    go_ret
    exact⟨by first|rfl|simp,L1.out⟩
 ·have t0: ¬(0:Int)<(n:Int):=by omega
  clear h0 hk
  rcases this with rfl|rfl|rfl|rfl|rfl|rfl
  all_goals
   go_enter Tryz.func8,Tryz.ntmps8
   go_wp2_with (first
    |(refine box_arg rfl (.tmp 0) rfl rfl ?_;intro w1 b1 e1 p1 l1 z1;have a0:=p1.c0;have a2:=p1.c2;have L1:=hid l1;clear e1 p1 l1 z1;simp only at a0 a2))
   go_loopg [3,4] 1 (fun gk s3 s4 wr=>s3= .int .i64 0∧s4= .int .i64 0∧wr=w1)
   case atStart=>exact⟨rfl,rfl,rfl⟩
   case round=>
    obtain⟨rfl,rfl,rfl⟩:=hrel
    go_wp2_with fail
    go_ret
    exact⟨by first|rfl|simp,L1.out⟩
theorem rgsize_other {k:Int} (hk: ¬(1≤k∧k≤9)) {t:ByteArray} {ks:List Piece} {l tp:Int} {w:World} {r:Raw} (h:PLow w r (.mk k t ks l tp)):Calls Tryz.prog 8 #[.agg (rawA r)] w (GTo w (.mk k t ks l tp)):=by
 unfold GTo
 rw[gsize_no hk]
 obtain⟨A,c,raws,rfl,k1⟩:=h.parts
 have r1:=k1.room
 have hc1:=r1.1
 have hc2:=r1.2
 obtain⟨n,hn⟩: ∃n,ks.length=n:=⟨_,rfl⟩
 rw[hn]at hc1 ⊢
 have t7:(k==7)=false:=by simp;omega
 have t8:(k==8)=false:=by simp;omega
 clear h k1 r1 hn
 by_cases h0:0<n
 ·have t0:(0:Int)<(n:Int):=by omega
  clear h0
  by_cases q:k<1
  ·have q2: ¬2≤k:=by omega
   clear hk
   go_enter Tryz.func8,Tryz.ntmps8
   go_wp2_with (first
    |(refine box_arg (r:=⟨k,t,A,n,c,l,tp⟩) rfl (.tmp 0) rfl rfl ?_;intro w1 b1 e1 p1 l1 z1;have a0:=p1.c0;have a2:=p1.c2;have L1:=hid l1;clear e1 p1 l1 z1;simp only at a0 a2))
   go_loopg [3,4] 1 (fun gk s3 s4 wr=>s3= .int .i64 0∧s4= .int .i64 0∧wr=w1)
   case atStart=>exact⟨rfl,rfl,rfl⟩
   case round=>
    obtain⟨rfl,rfl,rfl⟩:=hrel
    go_wp2_with fail
    go_ret
    exact⟨rfl,L1.out⟩
  ·have q2:2≤k:=by omega
   have q3: ¬k≤6:=by omega
   have q4:9<k:=by omega
   clear hk
   go_enter Tryz.func8,Tryz.ntmps8
   go_wp2_with (first
    |(refine box_arg (r:=⟨k,t,A,n,c,l,tp⟩) rfl (.tmp 0) rfl rfl ?_;intro w1 b1 e1 p1 l1 z1;have a0:=p1.c0;have a2:=p1.c2;have L1:=hid l1;clear e1 p1 l1 z1;simp only at a0 a2))
   go_loopg [3,4] 1 (fun gk s3 s4 wr=>s3= .int .i64 0∧s4= .int .i64 0∧wr=w1)
   case atStart=>exact⟨rfl,rfl,rfl⟩
   case round=>
    obtain⟨rfl,rfl,rfl⟩:=hrel
    go_wp2_with fail
    go_ret
    exact⟨rfl,L1.out⟩
 ·have t0: ¬(0:Int)<(n:Int):=by omega
  clear h0
  by_cases q:k<1
  ·have q2: ¬2≤k:=by omega
   clear hk
   go_enter Tryz.func8,Tryz.ntmps8
   go_wp2_with (first
    |(refine box_arg (r:=⟨k,t,A,n,c,l,tp⟩) rfl (.tmp 0) rfl rfl ?_;intro w1 b1 e1 p1 l1 z1;have a0:=p1.c0;have a2:=p1.c2;have L1:=hid l1;clear e1 p1 l1 z1;simp only at a0 a2))
   go_loopg [3,4] 1 (fun gk s3 s4 wr=>s3= .int .i64 0∧s4= .int .i64 0∧wr=w1)
   case atStart=>exact⟨rfl,rfl,rfl⟩
   case round=>
    obtain⟨rfl,rfl,rfl⟩:=hrel
    go_wp2_with fail
    go_ret
    exact⟨rfl,L1.out⟩
  ·have q2:2≤k:=by omega
   have q3: ¬k≤6:=by omega
   have q4:9<k:=by omega
   clear hk
   go_enter Tryz.func8,Tryz.ntmps8
   go_wp2_with (first
    |(refine box_arg (r:=⟨k,t,A,n,c,l,tp⟩) rfl (.tmp 0) rfl rfl ?_;intro w1 b1 e1 p1 l1 z1;have a0:=p1.c0;have a2:=p1.c2;have L1:=hid l1;clear e1 p1 l1 z1;simp only at a0 a2))
   go_loopg [3,4] 1 (fun gk s3 s4 wr=>s3= .int .i64 0∧s4= .int .i64 0∧wr=w1)
   case atStart=>exact⟨rfl,rfl,rfl⟩
   case round=>
    obtain⟨rfl,rfl,rfl⟩:=hrel
    go_wp2_with fail
    go_ret
    exact⟨rfl,L1.out⟩
theorem rgsize_not {t:ByteArray} {ks:List Piece} {m tp:Int} (ho:oft t ks.length m tp=false) {w:World} {r:Raw} (h:PLow w r (.mk 9 t ks m tp)):Calls Tryz.prog 8 #[.agg (rawA r)] w (GTo w (.mk 9 t ks m tp)):=by
 unfold GTo
 rw[gsize_not ho]
 obtain⟨A,c,raws,rfl,k1⟩:=h.parts
 have r1:=k1.room
 have hc1:=r1.1
 have hc2:=r1.2
 have HO:=roft_any 9 t A ks.length c m tp r1
 rw[ho]at HO
 unfold Asks at HO
 replace HO:=hid HO
 obtain⟨n,hn⟩: ∃n,ks.length=n:=⟨_,rfl⟩
 rw[hn]at hc1 HO ⊢
 clear h k1 r1 hn ho
 by_cases h0:0<n
 ·have t0:(0:Int)<(n:Int):=by omega
  clear h0
  go_enter Tryz.func8,Tryz.ntmps8
  go_wp2_with (first
   |(refine box_arg (r:=⟨9,t,A,n,c,m,tp⟩) rfl (.tmp 0) rfl rfl ?_;intro w1 b1 e1 p1 l1 z1;have P1:=hid p1;have a0:=p1.c0;have a1:=p1.c1;have a2:=p1.c2;have a3:=p1.c3;have a4:=p1.c4;have L1:=hid l1;clear e1 p1 l1 z1;simp only at a0 a1 a2 a3 a4))
  go_loopg [3,4] 1 (fun gk s3 s4 wr=>s3= .int .i64 0∧s4= .int .i64 0∧wr=w1)
  case atStart=>exact⟨rfl,rfl,rfl⟩
  case round=>
   obtain⟨rfl,rfl,rfl⟩:=hrel
   go_wp2_with fail
   refine(HO.out _).mono ?_
   rintro e w2 ⟨rfl,l2⟩
   have L2:=hid (on L1.out l2)
   clear l2
   go_wp2_with fail
   go_ret
   exact⟨rfl,L2.out⟩
 ·have t0: ¬(0:Int)<(n:Int):=by omega
  clear h0
  go_enter Tryz.func8,Tryz.ntmps8
  go_wp2_with (first
   |(refine box_arg (r:=⟨9,t,A,n,c,m,tp⟩) rfl (.tmp 0) rfl rfl ?_;intro w1 b1 e1 p1 l1 z1;have P1:=hid p1;have a0:=p1.c0;have a1:=p1.c1;have a2:=p1.c2;have a3:=p1.c3;have a4:=p1.c4;have L1:=hid l1;clear e1 p1 l1 z1;simp only at a0 a1 a2 a3 a4))
  go_loopg [3,4] 1 (fun gk s3 s4 wr=>s3= .int .i64 0∧s4= .int .i64 0∧wr=w1)
  case atStart=>exact⟨rfl,rfl,rfl⟩
  case round=>
   obtain⟨rfl,rfl,rfl⟩:=hrel
   go_wp2_with fail
   refine(HO.out _).mono ?_
   rintro e w2 ⟨rfl,l2⟩
   have L2:=hid (on L1.out l2)
   clear l2
   go_wp2_with fail
   go_ret
   exact⟨rfl,L2.out⟩
theorem rgsize_seq {t:ByteArray} {l tp:Int} {ks:List Piece} (IH: ∀i (hi:i<ks.length) (w:World) (r:Raw),PLow w r ks[i]→Calls Tryz.prog 8 #[.agg (rawA r)] w (GTo w ks[i])) {w:World} {r:Raw} (h:PLow w r (.mk 7 t ks l tp)):Calls Tryz.prog 8 #[.agg (rawA r)] w (GTo w (.mk 7 t ks l tp)):=by
 unfold GTo
 rw[gsize_many (.inl rfl) t ks l tp]
 obtain⟨A,c,raws,rfl,k1⟩:=h.parts
 have HI:=hid IH
 have hr1:=k1.room.1
 have hr2:=k1.room.2
 have K1:=hid k1
 clear h k1 IH
 go_enter Tryz.func8,Tryz.ntmps8
 go_wp2_with (first
  |(refine box_arg (r:=⟨7,t,A,ks.length,c,l,tp⟩) rfl (.tmp 0) rfl rfl ?_;intro w1 b1 e1 p1 l1 z1;have P1:=hid p1;have L1:=hid l1;clear e1 p1 l1 z1))
 have K1:=hid (K1.out.below L1.out)
 have HR:=hid (show ks.length≤c∧c≤9223372036854775807 from⟨hr1,hr2⟩)
 clear hr1 hr2
 go_loopg [3,4] ks.length (fun gk s3 s4 wr=> ∃i:Nat,s3= .int .i64 (gcnt 7 ks i:Nat)∧s4= .int .i64 i∧Hid (i+gk=ks.length)∧Hid (PBox wr b1 ⟨7,t,A,ks.length,c,l,tp⟩)∧Hid (Kids wr A c raws ks)∧Hid (Below w.heap.size w wr))
 case atStart=>exact⟨0,rfl,rfl,by unfold Hid;omega,P1,K1,L1⟩
 case round=>
  obtain⟨i,rfl,rfl,hig,P1,K1,HB⟩:=hrel
  have a0:=P1.out.c0
  have a2:=P1.out.c2
  simp only at a0 a2
  have hn1:=HR.out.1
  have hn2:=HR.out.2
  by_cases hi:i<ks.length
  ·have ti:(i:Int)<(ks.length:Int):=by omega
   obtain⟨g1,o1,rfl,C1⟩:=K1.out.at_ (Nat.lt_of_le_of_lt (Nat.zero_le _) hi)
   obtain⟨hr1,q1⟩:=K1.out.kid hi
   have E1:=hid (C1 i hr1)
   have HC:=hid (HI.out i hi wr _ q1)
   have HL:=hid (gcnt_le 7 ks i)
   have HI2:=hid hi
   clear C1 q1
   obtain⟨n,hn⟩: ∃n,gcnt 7 ks i=n:=⟨_,rfl⟩
   obtain⟨m,hm⟩: ∃m,gsize (ks[i]'hi)=m:=⟨_,rfl⟩
   have HX:=hid (gcnt_7 hi hn hm)
   rw[hn]at HL ⊢
   have HS:=hid (show m≤4001 from hm▸gsize_le _)
   have HM:=hid hm
   clear hn hm
   go_wp2_with (first|(refine load_at rfl (.tmp 27) rfl rfl (r:=raws[i]) E1.out ?_))
   refine HC.out.mono ?_
   rintro e w2 ⟨rfl,l2⟩
   rw[HM.out]
   have P2:=hid (P1.out.below l2)
   have K2:=hid (K1.out.below l2)
   have B2:=hid (HB.out.trans (l2.mono HB.out.size))
   have a0:=P2.out.c0
   have a2:=P2.out.c2
   simp only at a0 a2
   have hw:wrap64 ((n:Int)+(m:Int))=((n+m:Nat):Int):=by have:=HS.out;have:=HL.out;unfold wrap64;omega
   have hwi:wrap64 ((i:Int)+1)=((i+1:Nat):Int):=by unfold wrap64;omega
   have hmin:min ((n+m:Nat):Int) 4001=((gcnt 7 ks (i+1):Nat):Int):=by rw[HX.out];omega
   have HWI:=hid hwi
   clear l2 HC E1
   cases gk with
   |zero=>exact absurd hig.out (by have:=HI2.out;omega)
   |succ g=>
    by_cases h0:0<i
    ·have t0:(0:Int)<(i:Int):=by omega
     go_wp2_with fail
     go_roundg g
     case measure=>omega
     case rel=>exact⟨i+1,by first|rfl|exact congrArg (Value.int .i64) hmin,by first|rfl|exact congrArg (Value.int .i64) HWI.out,by have:=hig.out;unfold Hid;omega,P2,K2,B2⟩
    ·have t0: ¬(0:Int)<(i:Int):=by omega
     go_wp2_with fail
     go_roundg g
     case measure=>omega
     case rel=>exact⟨i+1,by first|rfl|exact congrArg (Value.int .i64) hmin,by first|rfl|exact congrArg (Value.int .i64) HWI.out,by have:=hig.out;unfold Hid;omega,P2,K2,B2⟩
  ·have ti: ¬(i:Int)<(ks.length:Int):=by omega
   have hie:i=ks.length:=by have:=hig.out;omega
   have hle:=gcnt_le 7 ks i
   have HE:=hid hie
   have hmin:min ((gcnt 7 ks i:Nat):Int) 4001=((gcnt 7 ks i:Nat):Int):=by omega
   clear hle hie
   go_wp2_with fail
   go_ret
   exact⟨by rw[←HE.out];first|rfl|rw[hmin],HB.out⟩
theorem rgsize_alt {t:ByteArray} {l tp:Int} {ks:List Piece} (IH: ∀i (hi:i<ks.length) (w:World) (r:Raw),PLow w r ks[i]→Calls Tryz.prog 8 #[.agg (rawA r)] w (GTo w ks[i])) {w:World} {r:Raw} (h:PLow w r (.mk 8 t ks l tp)):Calls Tryz.prog 8 #[.agg (rawA r)] w (GTo w (.mk 8 t ks l tp)):=by
 unfold GTo
 rw[gsize_many (.inr rfl) t ks l tp]
 obtain⟨A,c,raws,rfl,k1⟩:=h.parts
 have HI:=hid IH
 have hr1:=k1.room.1
 have hr2:=k1.room.2
 have K1:=hid k1
 clear h k1 IH
 go_enter Tryz.func8,Tryz.ntmps8
 go_wp2_with (first
  |(refine box_arg (r:=⟨8,t,A,ks.length,c,l,tp⟩) rfl (.tmp 0) rfl rfl ?_;intro w1 b1 e1 p1 l1 z1;have P1:=hid p1;have L1:=hid l1;clear e1 p1 l1 z1))
 have K1:=hid (K1.out.below L1.out)
 have HR:=hid (show ks.length≤c∧c≤9223372036854775807 from⟨hr1,hr2⟩)
 clear hr1 hr2
 go_loopg [3,4] ks.length (fun gk s3 s4 wr=> ∃i:Nat,s3= .int .i64 (gcnt 8 ks i:Nat)∧s4= .int .i64 i∧Hid (i+gk=ks.length)∧Hid (PBox wr b1 ⟨8,t,A,ks.length,c,l,tp⟩)∧Hid (Kids wr A c raws ks)∧Hid (Below w.heap.size w wr))
 case atStart=>exact⟨0,rfl,rfl,by unfold Hid;omega,P1,K1,L1⟩
 case round=>
  obtain⟨i,rfl,rfl,hig,P1,K1,HB⟩:=hrel
  have a0:=P1.out.c0
  have a2:=P1.out.c2
  simp only at a0 a2
  have hn1:=HR.out.1
  have hn2:=HR.out.2
  by_cases hi:i<ks.length
  ·have ti:(i:Int)<(ks.length:Int):=by omega
   obtain⟨g1,o1,rfl,C1⟩:=K1.out.at_ (Nat.lt_of_le_of_lt (Nat.zero_le _) hi)
   obtain⟨hr1,q1⟩:=K1.out.kid hi
   have E1:=hid (C1 i hr1)
   have HC:=hid (HI.out i hi wr _ q1)
   have HL:=hid (gcnt_le 8 ks i)
   have HI2:=hid hi
   clear C1 q1
   obtain⟨n,hn⟩: ∃n,gcnt 8 ks i=n:=⟨_,rfl⟩
   obtain⟨m,hm⟩: ∃m,gsize (ks[i]'hi)=m:=⟨_,rfl⟩
   have HX:=hid (gcnt_8 hi hn hm)
   rw[hn]at HL ⊢
   have HS:=hid (show m≤4001 from hm▸gsize_le _)
   have HM:=hid hm
   clear hn hm
   go_wp2_with (first|(refine load_at rfl (.tmp 27) rfl rfl (r:=raws[i]) E1.out ?_))
   refine HC.out.mono ?_
   rintro e w2 ⟨rfl,l2⟩
   rw[HM.out]
   have P2:=hid (P1.out.below l2)
   have K2:=hid (K1.out.below l2)
   have B2:=hid (HB.out.trans (l2.mono HB.out.size))
   have a0:=P2.out.c0
   have a2:=P2.out.c2
   simp only at a0 a2
   have hw:wrap64 ((n:Int)+(m:Int))=((n+m:Nat):Int):=by have:=HS.out;have:=HL.out;unfold wrap64;omega
   have hwi:wrap64 ((i:Int)+1)=((i+1:Nat):Int):=by unfold wrap64;omega
   have HWI:=hid hwi
   clear l2 HC E1
   cases gk with
   |zero=>exact absurd hig.out (by have:=HI2.out;omega)
   |succ g=>
    by_cases h0:0<i
    ·have t0:(0:Int)<(i:Int):=by omega
     have hw3:wrap64 ((n:Int)+(m:Int)+2)=((n+m+2:Nat):Int):=by have:=HS.out;have:=HL.out;unfold wrap64;omega
     have hmin:min (wrap64 ((n:Int)+(m:Int)+2)) 4001=((gcnt 8 ks (i+1):Nat):Int):=by rw[hw3,HX.out,if_pos h0];omega
     clear hw3
     go_wp2_with fail
     go_roundg g
     case measure=>omega
     case rel=>exact⟨i+1,by first|rfl|exact congrArg (Value.int .i64) hmin,by first|rfl|exact congrArg (Value.int .i64) HWI.out,by have:=hig.out;unfold Hid;omega,P2,K2,B2⟩
    ·have t0: ¬(0:Int)<(i:Int):=by omega
     have hmin:min ((n+m:Nat):Int) 4001=((gcnt 8 ks (i+1):Nat):Int):=by rw[HX.out,if_neg h0];omega
     go_wp2_with fail
     go_roundg g
     case measure=>omega
     case rel=>exact⟨i+1,by first|rfl|exact congrArg (Value.int .i64) hmin,by first|rfl|exact congrArg (Value.int .i64) HWI.out,by have:=hig.out;unfold Hid;omega,P2,K2,B2⟩
  ·have ti: ¬(i:Int)<(ks.length:Int):=by omega
   have hie:i=ks.length:=by have:=hig.out;omega
   have hle:=gcnt_le 8 ks i
   have HE:=hid hie
   have hmin:min ((gcnt 8 ks i:Nat):Int) 4001=((gcnt 8 ks i:Nat):Int):=by omega
   clear hle hie
   go_wp2_with fail
   go_ret
   exact⟨by rw[←HE.out];first|rfl|rw[hmin],HB.out⟩
theorem rgsize_ever {p:Piece} {M:Nat} (hM:M≤100) (IH: ∀(w:World) (r:Raw),PLow w r p→Calls Tryz.prog 8 #[.agg (rawA r)] w (GTo w p)) {w:World} {r:Raw} (h:PLow w r (.mk 9 ⟨#[]⟩ [p] M (-1))):Calls Tryz.prog 8 #[.agg (rawA r)] w (GTo w (.mk 9 ⟨#[]⟩ [p] M (-1))):=by
 unfold GTo
 rw[gsize_rep _ _ _ (oft_of hM (.inl rfl))]
 obtain⟨A,c,raws,rfl,k1⟩:=h.parts
 have hr:1≤c∧c≤9223372036854775807:=k1.room
 obtain⟨g1,o1,rfl,C1⟩:=k1.at_ (Nat.lt_succ_self 0)
 obtain⟨hr1,q1⟩:=k1.kid (i:=0) (Nat.lt_succ_self 0)
 have HG:=hid (k1.2.1 _ rfl (Nat.lt_of_le_of_lt (Nat.zero_le _) hr1))
 have E1:=C1 0 hr1
 obtain⟨rk,hrk⟩: ∃rk,raws[0]=rk:=⟨_,rfl⟩
 rw[hrk]at E1 q1
 have Q1:Hid (PLow w rk p):=q1
 rw[show o1+0*5=o1 by omega]at E1
 have E1:=hid E1
 have HI:=hid (fun(w:World) (h:PLow w rk p)=>IH w rk h)
 have HO:=hid (fun w=>roften_any (m:=(M:Int)) (t:=(-1)) ⟨by omega,by omega⟩ (A:=some ⟨g1,o1,none⟩) hr w)
 have hS:=gsize_le p
 obtain⟨K,hK⟩: ∃K,gsize p=K:=⟨_,rfl⟩
 have HK:=hid hK
 rw[hK]at hS ⊢
 have hMS:=mul_small (a:=M) (b:=K) (by omega) (by omega)
 obtain⟨P,hP⟩: ∃P,M*K=P:=⟨_,rfl⟩
 rw[hP]at hMS
 have hw1:Hid (wrap64 ((M:Int)*(K:Int))=(P:Int)):=wrap_nat (by rw[←Int.natCast_mul,hP]) (Nat.le_trans hMS (by decide))
 replace hP:=hid hP
 obtain⟨P2,hP2⟩: ∃P2,P+K=P2:=⟨_,rfl⟩
 have hw2:Hid (wrap64 ((P:Int)+(K:Int))=(P2:Int)):=wrap_nat (by rw[←hP2,Int.natCast_add]) (by omega)
 obtain⟨P3,hP3⟩: ∃P3,P2+2=P3:=⟨_,rfl⟩
 have hw3:Hid (wrap64 ((P2:Int)+2)=(P3:Int)):=wrap_nat (by rw[←hP3,Int.natCast_add];rfl) (by omega)
 have hmin:=min_nat P3
 have HE:Hid (min 4001 (if(-1:Int)= -1 then M*K+K+2 else M*K+(-1-(M:Int)).toNat*(K+1))=min 4001 P3):=by
  unfold Hid
  rw[if_pos rfl,hP.out,hP2,hP3]
 rw[HE.out]
 clear HE
 have hc1:=hr.1
 have hc2:=hr.2
 have HMIN:=hid hmin
 clear hM
 clear h k1 C1 q1 hrk hr1 IH hK hS hMS hP2 hP3 hr hmin
 go_enter Tryz.func8,Tryz.ntmps8
 go_wp2_with (first
  |(refine box_arg (r:=⟨9,⟨#[]⟩,some ⟨g1,o1,none⟩,1,c,(M:Int),(-1)⟩) rfl (.tmp 0) rfl rfl ?_;intro w1 b1 e1 p1 l1 z1;have P1:=hid p1;have L1:=hid l1;have a0:=p1.c0;have a1:=p1.c1;have a2:=p1.c2;have a3:=p1.c3;have a4:=p1.c4;clear e1 p1 l1 z1;simp only at a0 a1 a2 a3 a4))
 go_loopg [3,4] 1 (fun gk s3 s4 wr=>s3= .int .i64 0∧s4= .int .i64 0∧wr=w1)
 case atStart=>exact⟨rfl,rfl,rfl⟩
 case round=>
  obtain⟨rfl,rfl,rfl⟩:=hrel
  go_wp2_with fail
  refine(HO.out _).mono ?_
  rintro e w2 ⟨rfl,l2⟩
  have PB2:=hid (P1.out.below l2)
  have L2:=hid (L1.out.trans (l2.mono L1.out.size))
  have E2:Hid (∀j,j<5→w2.cell? ⟨g1,o1+j,none⟩=(rawC rk)[j]?):=fun j hj=>(cell_block (L2.out.block g1 HG.out)).trans (E1.out j hj)
  have Q2:=hid (Q1.out.below L2.out)
  have a0:=PB2.out.c0
  have a2:=PB2.out.c2
  simp only at a0 a2
  clear l2
  go_wp2_with (first|(refine load_at rfl (.tmp 73) rfl rfl (r:=rk) E2.out ?_))
  refine(HI.out _ Q2.out).mono ?_
  rintro e w3 ⟨rfl,l3⟩
  rw[HK.out]
  have PB3:=hid (PB2.out.below l3)
  have L3:=hid (L2.out.trans (l3.mono L2.out.size))
  have a3:=PB3.out.c3
  have a4:=PB3.out.c4
  simp only at a3 a4
  clear l3
  replace hw1:=hw1.out
  replace hw2:=hw2.out
  replace hw3:=hw3.out
  go_wp2_with fail
  go_ret
  refine⟨?_,L3.out⟩
  first|rfl|exact congrArg (fun x=>Ending.returned (Value.int .i64 x)) HMIN.out
theorem rgsize_upto {p:Piece} {M T:Nat} (hM:M≤100) (hT:M≤T∧T≤100) (IH: ∀(w:World) (r:Raw),PLow w r p→Calls Tryz.prog 8 #[.agg (rawA r)] w (GTo w p)) {w:World} {r:Raw} (h:PLow w r (.mk 9 ⟨#[]⟩ [p] M (T:Int))):Calls Tryz.prog 8 #[.agg (rawA r)] w (GTo w (.mk 9 ⟨#[]⟩ [p] M (T:Int))):=by
 unfold GTo
 rw[gsize_rep _ _ _ (oft_of hM (.inr ⟨by omega,by omega⟩))]
 obtain⟨A,c,raws,rfl,k1⟩:=h.parts
 have hr:1≤c∧c≤9223372036854775807:=k1.room
 obtain⟨g1,o1,rfl,C1⟩:=k1.at_ (Nat.lt_succ_self 0)
 obtain⟨hr1,q1⟩:=k1.kid (i:=0) (Nat.lt_succ_self 0)
 have HG:=hid (k1.2.1 _ rfl (Nat.lt_of_le_of_lt (Nat.zero_le _) hr1))
 have E1:=C1 0 hr1
 obtain⟨rk,hrk⟩: ∃rk,raws[0]=rk:=⟨_,rfl⟩
 rw[hrk]at E1 q1
 have Q1:Hid (PLow w rk p):=q1
 rw[show o1+0*5=o1 by omega]at E1
 have E1:=hid E1
 have HI:=hid (fun(w:World) (h:PLow w rk p)=>IH w rk h)
 have HO:=hid (fun w=>roften_any (m:=(M:Int)) (t:=(T:Int)) ⟨by omega,by omega⟩ (A:=some ⟨g1,o1,none⟩) hr w)
 have hS:=gsize_le p
 obtain⟨K,hK⟩: ∃K,gsize p=K:=⟨_,rfl⟩
 have HK:=hid hK
 rw[hK]at hS ⊢
 have hMS:=mul_small (a:=M) (b:=K) (by omega) (by omega)
 obtain⟨P,hP⟩: ∃P,M*K=P:=⟨_,rfl⟩
 rw[hP]at hMS
 have hw1:Hid (wrap64 ((M:Int)*(K:Int))=(P:Int)):=wrap_nat (by rw[←Int.natCast_mul,hP]) (Nat.le_trans hMS (by decide))
 replace hP:=hid hP
 obtain⟨P2,hP2⟩: ∃P2,P+K=P2:=⟨_,rfl⟩
 have hw2:Hid (wrap64 ((P:Int)+(K:Int))=(P2:Int)):=wrap_nat (by rw[←hP2,Int.natCast_add]) (by omega)
 obtain⟨P3,hP3⟩: ∃P3,P2+2=P3:=⟨_,rfl⟩
 have hw3:Hid (wrap64 ((P2:Int)+2)=(P3:Int)):=wrap_nat (by rw[←hP3,Int.natCast_add];rfl) (by omega)
 obtain⟨D,hD⟩: ∃D,T-M=D:=⟨_,rfl⟩
 have hw4:Hid (wrap64 ((T:Int)-(M:Int))=(D:Int)):=wrap_nat (by omega) (by omega)
 obtain⟨K2,hK2⟩: ∃K2,K+1=K2:=⟨_,rfl⟩
 have hw5:Hid (wrap64 ((K:Int)+1)=(K2:Int)):=wrap_nat (by omega) (by omega)
 have hDS:=mul_small (a:=D) (b:=K2) (by omega) (by omega)
 obtain⟨G,hG⟩: ∃G,D*K2=G:=⟨_,rfl⟩
 rw[hG]at hDS
 have hw6:Hid (wrap64 ((D:Int)*(K2:Int))=(G:Int)):=wrap_nat (by rw[←Int.natCast_mul,hG]) (Nat.le_trans hDS (by decide))
 replace hG:=hid hG
 obtain⟨N,hN⟩: ∃N,P+G=N:=⟨_,rfl⟩
 have hw7:Hid (wrap64 ((P:Int)+(G:Int))=(N:Int)):=wrap_nat (by rw[←hN,Int.natCast_add]) (by omega)
 have hmin:=min_nat N
 have HE:Hid (min 4001 (if(T:Int)= -1 then M*K+K+2 else M*K+((T:Int)-(M:Int)).toNat*(K+1))=min 4001 N):=by
  unfold Hid
  rw[if_neg (by omega),show((T:Int)-(M:Int)).toNat=D by omega,hP.out,hK2,hG.out,hN]
 have x0:(0:Int)≤(T:Int):=by omega
 rw[HE.out]
 clear HE
 have hc1:=hr.1
 have hc2:=hr.2
 have HMIN:=hid hmin
 replace x0:=hid x0
 clear hM hT
 clear h k1 C1 q1 hrk hr1 IH hK hS hMS hP2 hP3 hr hmin hD hK2 hDS hN
 go_enter Tryz.func8,Tryz.ntmps8
 go_wp2_with (first
  |(refine box_arg (r:=⟨9,⟨#[]⟩,some ⟨g1,o1,none⟩,1,c,(M:Int),(T:Int)⟩) rfl (.tmp 0) rfl rfl ?_;intro w1 b1 e1 p1 l1 z1;have P1:=hid p1;have L1:=hid l1;have a0:=p1.c0;have a1:=p1.c1;have a2:=p1.c2;have a3:=p1.c3;have a4:=p1.c4;clear e1 p1 l1 z1;simp only at a0 a1 a2 a3 a4))
 go_loopg [3,4] 1 (fun gk s3 s4 wr=>s3= .int .i64 0∧s4= .int .i64 0∧wr=w1)
 case atStart=>exact⟨rfl,rfl,rfl⟩
 case round=>
  obtain⟨rfl,rfl,rfl⟩:=hrel
  go_wp2_with fail
  refine(HO.out _).mono ?_
  rintro e w2 ⟨rfl,l2⟩
  have PB2:=hid (P1.out.below l2)
  have L2:=hid (L1.out.trans (l2.mono L1.out.size))
  have E2:Hid (∀j,j<5→w2.cell? ⟨g1,o1+j,none⟩=(rawC rk)[j]?):=fun j hj=>(cell_block (L2.out.block g1 HG.out)).trans (E1.out j hj)
  have Q2:=hid (Q1.out.below L2.out)
  have a0:=PB2.out.c0
  have a2:=PB2.out.c2
  simp only at a0 a2
  clear l2
  go_wp2_with (first|(refine load_at rfl (.tmp 73) rfl rfl (r:=rk) E2.out ?_))
  refine(HI.out _ Q2.out).mono ?_
  rintro e w3 ⟨rfl,l3⟩
  rw[HK.out]
  have PB3:=hid (PB2.out.below l3)
  have L3:=hid (L2.out.trans (l3.mono L2.out.size))
  have a3:=PB3.out.c3
  have a4:=PB3.out.c4
  simp only at a3 a4
  clear l3
  replace hw1:=hw1.out
  replace hw2:=hw2.out
  replace hw3:=hw3.out
  replace hw4:=hw4.out
  replace hw5:=hw5.out
  replace hw6:=hw6.out
  replace hw7:=hw7.out
  replace x0:=x0.out
  go_wp2_with fail
  go_ret
  refine⟨?_,L3.out⟩
  first|rfl|exact congrArg (fun x=>Ending.returned (Value.int .i64 x)) HMIN.out
theorem rgsize_any (p:Piece): ∀(w:World) (r:Raw),PLow w r p→Calls Tryz.prog 8 #[.agg (rawA r)] w (GTo w p):=by
 induction p using M15.ind with
 |h k t ks m tp ih=>
  intro w r h
  have IH: ∀i (hi:i<ks.length) (w:World) (r:Raw),PLow w r ks[i]→Calls Tryz.prog 8 #[.agg (rawA r)] w (GTo w ks[i]):=fun i hi=>ih ks[i] (List.getElem_mem hi)
  by_cases h1:1≤k∧k≤6
  ·exact rgsize_leaf h1 h
  by_cases h7:k=7
  ·subst h7;exact rgsize_seq IH h
  by_cases h8:k=8
  ·subst h8;exact rgsize_alt IH h
  by_cases h9:k=9
  ·subst h9
   cases ho:oft t ks.length m tp with
   |false=>exact rgsize_not ho h
   |true=>
    obtain⟨a1,a2,a3,a4⟩:=oft_is ho
    obtain⟨p,rfl⟩: ∃p,ks= [p]:=List.length_eq_one_iff.1 a1
    have ht:t=⟨#[]⟩:=no_of a2
    subst ht
    obtain⟨M,rfl⟩: ∃M:Nat,m=(M:Int):=⟨m.toNat,by omega⟩
    have IHp:=ih p (by simp)
    by_cases q:tp= -1
    ·subst q;exact rgsize_ever (by omega) IHp h
    ·obtain⟨T,rfl⟩: ∃T:Nat,tp=(T:Int):=⟨tp.toNat,by omega⟩
     exact rgsize_upto (by omega) ⟨by omega,by omega⟩ IHp h
  exact rgsize_other (by omega) h
end W15
end Go.Proofs.YtehdnbidgphecaaGreatDoor
