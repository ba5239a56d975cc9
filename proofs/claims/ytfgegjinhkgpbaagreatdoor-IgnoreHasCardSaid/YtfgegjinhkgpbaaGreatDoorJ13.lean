/-
  Texts joined, in build order, each with its own comment and its own conditions: W16Ends.
-/
import Derived.Test.YtfgegjinhkgpbaaGreatDoorTake
import Derived.Test.YtfgegjinhkgpbaaGreatDoorJ12
import Derived.Test.YtfgegjinhkgpbaaGreatDoorJ10
import Derived.RangeFuncBound
import Derived.Shelf.Abstract
import Derived.Shelf.RegionOpen
import Derived.OwnWalkIn
import Derived.TacticsInMore
import Derived.LoopNIn
import Derived.LoopIn
namespace Go.Proofs.YtfgegjinhkgpbaaGreatDoor
set_option maxHeartbeats 4000000
set_option maxRecDepth 100000
open Go.RowKit
open Lib (hid)
namespace Fg
open Go.Shelf Strs Al Range
open Bv (AL Ca)
open BR (Text steps Eo scan run yields ins)
open EH (CZ D8 BJ Qc CS KT DI Cw Cx DR)
open W14 (AO AZ AY BL)
open Kit (below_draws on)
attribute [local go_sem] Oper.semAt_some
def FH (b:Nat):Array Value:= #[.pointer (some ⟨b,0,none⟩),.pointer (some ⟨b+1,0,none⟩),.pointer (some ⟨b+3,0,none⟩),.pointer (some ⟨b+2,0,none⟩)]
def jO (x:BR.Mark):Array Value:= #[.int .i64 x.1,.int .i64 x.2]
theorem JR {w:World} {b:Nat} {x:AL} (h:CS w b x): ∀j,j<4->w.cell? ⟨b,0+j,none⟩=(CZ x)[j]? :=by
 intro j hj
 rw[Nat.zero_add,cell_of_row w b j _ _ _ h]
 match j,hj with
 |0,_=>rfl
 |1,_=>rfl
 |2,_=>rfl
 |3,_=>rfl
theorem Dp {w w':World} {g o:Nat} {x:AL} (h: ∀j,j<4->w.cell? ⟨g,o+j,none⟩=(CZ x)[j]?) (hb:Below w.heap.size w w'): ∀j,j<4->w'.cell? ⟨g,o+j,none⟩=(CZ x)[j]? :=fun j hj=>by
 have h5:=h j hj
 have h6: ∃u,(CZ x)[j]? =some u:=⟨_,List.getElem?_eq_getElem (by rw[BJ];exact hj)⟩
 obtain⟨u,hu⟩:=h6
 rw[hu]at h5 ⊢
 exact(hb.cell (World.block_lt_of_cell? w _ h5)).trans h5
theorem jP {n b:Nat} {l:List Nat}: ∀ {M:List BR.Mark},Fit n M->(∀j∈l,j<n)->Fit n (BR.puts M l b):=by
 unfold BR.puts
 induction l with
 |nil=>intro M h _;exact h
 |cons x l ih=>intro M h hl;exact ih (h.put (m:=(x,b)) (hl x (by simp))) (fun j hj=>hl j (by simp[hj]))
theorem jQ {L:List AL} (hf:BR.Fair L) {n q b:Nat}: ∀(f i:Nat) {M:List BR.Mark},Fit L.length M->Fit L.length (BR.go L n q b f i M)
 |0,_,_,h=>h
 |f+1,i,M,h=>by
  rw[BR.go]
  split
  ·exact h
  exact jQ hf f (i+1) (jP h fun j hj=>hf.rM _ _ _ _ hj)
theorem Iz {L:List AL} (hf:BR.Fair L) {n q:Nat} {M:List BR.Mark} {m:BR.Mark} (h:Fit L.length M) (hm:m.1<L.length):Fit L.length (Eo L n q M m):=jQ hf _ _ (h.put hm)
theorem oN {L:List AL} (hf:BR.Fair L) {s:Text} {q:Nat} {nx:List BR.Mark} {m:BR.Mark} (h:Fit L.length nx):Fit L.length (BR.GD L s q nx m):=by
 unfold BR.GD
 split
 ·split
  ·rename_i ht;exact Iz hf h (hf.il _ _ ht)
  exact h
 exact h
theorem RL {L:List AL} (hf:BR.Fair L) {s:Text} {q:Nat}: ∀(l:List BR.Mark) (e:Option Nat) (nx:List BR.Mark),Fit L.length nx->Fit L.length (scan L s q l e nx).2
 | [],_,_,h=>h
 |m::r,e,nx,h=>by
  rw[scan]
  split
  ·exact h
  split
  ·exact RL hf r _ nx h
  exact RL hf r e _ (oN hf h)
def after (L:List AL) (s:Text) (f q u:Nat) (NX:List BR.Mark):Option Nat->List BR.Mark
 |some b=>(b,q)::run L s f (q+1) q NX
 |none=>run L s f (q+1) u NX
theorem jR {L:List AL} {s:Text} {f q u:Nat} {now NX:List BR.Mark} {E:Option Nat} (h:q<=u\/now≠ []) (hs:scan L s q (BR.entered L s q u now) none []=(E,NX)):run L s (f+1) q u now=after L s f q u NX E:=by
 rw[run,if_pos h,hs]
 cases E<;>rfl
theorem RP {L:List AL} {s:Text} {q:Nat} (h:s.length<=q): ∀(l:List BR.Mark) (e:Option Nat) (nx:List BR.Mark),(scan L s q l e nx).2=nx
 | [],_,_=>rfl
 |m::r,e,nx=>by
  have ha:BR.GD L s q nx m=nx:=by unfold BR.GD;rw[List.getElem?_eq_none h]
  rw[scan]
  split
  ·rfl
  split
  ·exact RP h r _ nx
  rw[ha];exact RP h r e nx
set_option maxHeartbeats 16000000 in
theorem Xf (C:wQ) (w0:World) (hP:Qc C.base w0 C.lv C.L) (hc:TB w0 C.b C.lv C.s C.first C.last) (hn:C.L.length<=900000) (hs:C.s.size<=1099511627776) (hfl:C.first<=C.last) (hls:C.last<=C.s.size):
    uj Tryz.prog 111 (FH C.b) jO C.base (Four C.b) (yields C.L C.s.data.toList C.first C.last) w0:=by
 intro l J Jx T0 W hold hsz hJ hJx hlies hO hbase jS hJ0
 have wR:Qc C.base W C.lv C.L:=hP.keep fun p hp=>AO (hold _ (Or.inl hp))
 have hcW:TB W C.b C.lv C.s C.first C.last:=hc.same fun k h1 h2=>hold k (Or.inr ⟨h1,h2⟩)
 have HR:=hid (KT wR hbase)
 obtain⟨A,cl,hlv,hl1,hl2⟩:=wR.form
 unfold maxLen at hl2
 have HLV:=hid hlv
 have c0:=hcW.c0
 have cW:=hcW.c0
 rw[hlv]at HR c0 cW
 have HPW:=hid wR
 have zf:=hid hcW
 have HJ:=hid hJ
 have gI:=hid hJx
 have ZU:=hid hlies
 have HO:=hid hO
 have HB:=hid hbase
 have HY:=hid jS
 have H0:=hid hJ0
 have HF:=hid hfl
 have zg:=hid hls
 have HN:Hid (C.L.length<=900000):=by unfold Hid;omega
 have HS:=hid hs
 have qU:=hid hcW.lt
 obtain⟨xs,hxs⟩: ∃xs,yields C.L C.s.data.toList C.first C.last=xs:=⟨_,rfl⟩
 have wS:=hid hxs
 rw[hxs]at HY ⊢
 obtain⟨n,hnl⟩: ∃n,C.L.length=n:=⟨_,rfl⟩
 have GX:=hid hnl
 rw[hnl]at HR c0 cW hl1 HN
 clear hold hsz hP hc wR hcW hJ hJx hlies hO hbase jS hJ0 hfl hls hn hs hlv hxs hnl
 refine(callsIn_wide (n:=9)).1 ?_
 refine callsIn_of_wp Tryz.func111 rfl trivial ?_ rfl
 refine wpIn_wide.2 ?_
 simp only[Tryz.ntmps111,FH,List.size_toArray,List.length_cons,List.length_nil,Nat.reduceAdd,Nat.reduceSub,Array.replicate_succ,Array.replicate_zero,List.push_toArray,List.append_toArray,List.nil_append,List.cons_append]
 cases hR:Ca C.L with
 |false=>
  rw[hR]at HR
  go_wp2_with fail
  refine HR.out.mono ?_
  rintro e w1 ⟨rfl,l1⟩
  have L1:=hid l1
  clear l1
  go_wp2_with fail
  refine bodyPost_ret (results_none rfl _ _ _) rfl ?_
  have hx:xs= []:=by rw[<-wS.out];unfold yields;rw[hR];rfl
  refine⟨⟨_,rfl⟩,AP.of_below (L1.out.mono HB.out) (fun k h1 _=>h1),FL T0 W w1,ZU.out.fresh HB.out L1.out.size,fun k hk=>Or.inl hk,Or.inl ?_⟩
  rw[hx]
  exact HJ.out _ _ _ _ H0.out ZU.out HB.out (AP.new L1.out)
 |true=>
  rw[hR]at HR
  have Yb:=hid hR
  go_wp2_with fail
  refine HR.out.mono ?_
  rintro e w1 ⟨rfl,l1⟩
  have L1:=hid l1
  have c0:w1.cell? ⟨C.b,0,none⟩=some (.slice A n cl):=(l1.cell (p:=⟨C.b,0,none⟩) (by have:=qU.out;show C.b<_;omega)).trans c0
  have d0:w1.cell? ⟨C.b+1,0,none⟩=some (.string C.s):=(l1.cell (p:=⟨C.b+1,0,none⟩) (by have:=qU.out;show C.b+1<_;omega)).trans zf.out.c1
  have hbr:=fun(w:World)=>dU A n cl C.s w
  clear l1 hR HR
  go_wp2_with (first
   |(refine dR rfl rfl ?_;intro w3 b6 e3 p3 l3 z3)
   |(refine dS (A:=A) (n:=n) (c:=cl) (s:=C.s) rfl (.tmp 6) (.tmp 21) rfl rfl rfl p3 ?_;intro w4 p4 l4 z4;have L4:=hid (on L1.out (AY l3 l4 e3));have P4:=hid p4;have E6:Hid (W.heap.size<=b6):=(by unfold Hid;have:=L1.out.size;omega);clear e3 p3 l3 z3 p4 l4 z4))
  have x_:Hid (C.base<=(w4.drewN 1).heap.size):=Nat.le_trans HB.out L4.out.size
  have yA:Hid (C.b<(w4.drewN 1).heap.size):=Nat.lt_of_lt_of_le (by have:=qU.out;omega) L4.out.size
  have c1:(w4.drewN 1).cell? ⟨C.b,0,none⟩=some (.slice A n cl):=(L4.out.cell (p:=⟨C.b,0,none⟩) (by have:=qU.out;show C.b<_;omega)).trans cW
  clear c0 d0 hbr cW
  refine wp_region_held_drew (S:=fun w'=>w'.cell? ⟨C.b,0,none⟩=some (.slice A n cl)) (by kernel_rfl) c1 (fun hHeld=> ?_)
  refine Take.k 0 ⟨some 22,.load 46 (.tmp 1),_,_,_,none⟩ ?_
  refine Take.k 1 ⟨some 23,.call ⟨.builtin .len, #[.tmp 22], #[46]⟩,_,_,_,none⟩ ?_
  refine Take.k 3 ⟨some 25,.load 46 (.tmp 1),_,_,_,none⟩ ?_
  refine Take.k 4 ⟨some 26,.call ⟨.builtin .len, #[.tmp 25], #[46]⟩,_,_,_,none⟩ ?_
  refine wpAnyH_ready (rs:= [2]) (by kernel_rfl) (by simp) ?_
  refine AllReadyH.cons (o:=⟨some 24,.call ⟨.value (.func 113), #[.tmp 23], #[3]⟩,_,_,_,none⟩) rfl (fun K hK=> ?_) AllReadyH.nil
  go_simp
  (go_at_call 113;refine(Qw (base:=C.base) x_.out (by have:=HN.out;omega)).mono ?_;rintro e w2 ⟨wT,zh,rfl,q2,e2,d2,l2⟩;have R2:=hid q2;have E2:=hid (And.intro e2 d2);have L2:=hid l2;have c2:=(L2.out.cell (p:=⟨C.b,0,none⟩) yA.out).trans c1;clear q2 e2 d2 l2)
  go_wp2_with fail
  refine hK.out _ _ ?_ (fun hHeld=> ?_)
  ·exact c2
  clear hK K
  try simp only[Act.put,Take.a,Take.b,Take.c]
  refine wpAnyH_ready (rs:= [5]) (by kernel_rfl) (by simp) ?_
  refine AllReadyH.cons (o:=⟨some 27,.call ⟨.value (.func 113), #[.tmp 26], #[3]⟩,_,_,_,none⟩) rfl (fun K hK=> ?_) AllReadyH.nil
  go_simp
  (go_at_call 113;refine(Qw (base:=C.base) (Nat.le_trans x_.out L2.out.size) (by have:=HN.out;omega)).mono ?_;rintro e w3 ⟨wU,zi,rfl,q3,e3,d3,l3⟩;have R3:=hid q3;have E3:=hid (And.intro e3 d3);have L3:=hid l3;have c3:=(L3.out.cell (p:=⟨C.b,0,none⟩) (Nat.lt_of_lt_of_le yA.out L2.out.size)).trans c2;clear q3 e3 d3 l3)
  go_wp2_with fail
  refine hK.out _ _ ?_ (fun hHeld=> ?_)
  ·exact c3
  clear hK K
  try simp only[Act.put,Take.a,Take.b,Take.c]
  refine Take.k 6 ⟨some 7,.assign (.tmp 24),_,_,_,none⟩ ?_
  refine Take.k 7 ⟨some 8,.assign (.tmp 27),_,_,_,none⟩ ?_
  refine wpAnyH_done (by kernel_rfl) ?_ _
  have Le:Hid (C.lv= .slice A n cl):=by unfold Hid;rw[HLV.out,GX.out]
  have zk:Hid (GJ w4 b6 C.lv C.s):=by unfold Hid;rw[Le.out];exact P4.out
  have IT:Hid (It C J T0 W (FL T0 W w3) [] w3 b6 wT zh (.slice none 0 0) [] wU zi (.slice none 0 0) []):=jN HJ.out H0.out ZU.out HB.out HO.out zf.out HPW.out (on L4.out (below_draws w4 1)) (zk.out.below (below_draws w4 1)) E6.out (by rw[GX.out];exact R2.out) E2.out L2.out (by rw[GX.out];exact R3.out) E3.out L3.out
  have a2:=IT.out.Iy.c2
  have a3:=IT.out.Iy.c3
  clear c1 c2 c3
  go_wp2_with fail
  clear a2 a3
  have YX:Hid (C.s.data.toList.length=C.s.size):=(Lib.size_eq C.s).symm
  obtain⟨S,hS⟩: ∃S,C.s.data.toList=S:=⟨_,rfl⟩
  have qV:=hid hS
  have zl:Hid ([]++run C.L S (C.s.size+1-C.first) C.first C.last []=xs):=by unfold Hid;rw[<-wS.out];unfold yields;rw[Yb.out,if_pos rfl,YX.out,hS,List.nil_append]
  rw[hS]at YX
  clear hS
  go_loopg [7,8,9,10] (C.s.size+1-C.first) (fun gk s7 s8 s9 s10 wr=> ∃(T:Nat->Prop) (pre:List BR.Mark) (q u r1 g1 r2 g2:Nat) (v1 v2:Value) (now:List BR.Mark),s7= .pointer (some ⟨r1,0,none⟩)/\s8= .pointer (some ⟨r2,0,none⟩)/\s9= .int .i64 u/\s10= .int .i64 q/\Hid (It C J T0 W T pre wr b6 r1 g1 v1 now r2 g2 v2 [])/\Hid (Fit n now)/\Hid (pre++run C.L S gk q u now=xs)/\Hid (q+gk=C.s.size+1/\u<=C.s.size/\(gk=0->now= [])))
  case atStart=>exact⟨_,[],C.first,C.last,wT,zh,wU,zi,.slice none 0 0,.slice none 0 0,[],rfl,rfl,rfl,rfl,IT,⟨by simp[steps],by simp⟩,zl,by have:=HF.out;have:=zg.out;omega,zg.out,fun _=>rfl⟩
  case round=>
   clear IT zl R2 R3 E2 E3 L2 L3 P4 zk L4 E6 L1 x_ yA
   obtain⟨T,pre,q,u,r1,g1,r2,g2,v1,v2,now,rfl,rfl,rfl,rfl,I1,F1,RN,HQ⟩:=hrel
   by_cases hgo:q<=u\/now≠ []
   ·cases gk with
    |zero=>exact absurd hgo (by have:=HQ.out;rintro(h|h);omega;exact h (this.2.2 rfl))
    |succ gk=>
     obtain⟨E,NX,hsc⟩: ∃E NX,scan C.L S q (BR.entered C.L S q u now) none []=(E,NX):=⟨_,_,rfl⟩
     have uu:=hid hsc
     have YY:Hid (pre++after C.L S gk q u NX E=xs):=by unfold Hid;rw[<-RN.out,jR hgo hsc]
     have oO:Hid (gk=0->NX= []):=fun h0=>by
      have h1:=RP (L:=C.L) (s:=S) (q:=q) (by rw[YX.out];have:=HQ.out;omega) (BR.entered C.L S q u now) none []
      rw[hsc]at h1
      exact h1
     have oP:Hid (Fit n NX):=by
      have h1:=RL (BR.Ga Yb.out) (s:=S) (q:=q) (BR.entered C.L S q u now) none [] ⟨by simp[steps],by simp⟩
      rw[hsc,GX.out]at h1
      exact h1
     have sK:q<=4611686018427387904:=by have:=HQ.out;have:=HS.out;omega
     have yB:=hid sK
     have uM:Hid (q<=C.s.size):=by unfold Hid;have:=HQ.out;omega
     have hwq:Hid (wrap64 ((q:Int)+1)=((q+1:Nat):Int)):=by unfold Hid wrap64;omega
     have HU:=hid (show u<=C.s.size/\C.s.size<=1099511627776 from⟨HQ.out.2.1,HS.out⟩)
     obtain⟨A1,c1,rfl,hk1,hk2⟩:=I1.out.FW.form
     unfold maxLen at hk2
     have a0:=I1.out.FW.c0
     clear hsc RN
     by_cases nz:q<=u
     ·have tq:(q:Int)<=(u:Int):=by omega
      have a_:Hid (BR.entered C.L S q u now=Eo C.L C.s.size q now (0,q)):=by unfold Hid BR.entered;rw[if_pos nz,YX.out]
      have GO:=hid (fun(w':World) (T':Nat->Prop) (h:It C J T0 W T' pre w' b6 r1 g1 (.slice A1 now.length c1) now r2 g2 v2 [])=>J4 h.prog Yb.out (by rw[GX.out];have:=HN.out;omega) h.FW (by rw[GX.out];exact F1.out) C.s (0,q) (by have:=Yb.out;unfold Ca at this;rw[Bool.and_eq_true]at this;simpa using this.2) q yB.out)
      rw[Le.out]at GO
      have oQ:=Gy 0 (q:Int)
      have RB:Hid (GJ wr b6 (.slice A n cl) C.s):=by have:=I1.out.run;rw[Le.out]at this;exact this
      clear hgo nz sK
      go_wp2_with fail
      go_step3
      go_wp2_with (first|(refine J6 (lv:= .slice A n cl) (s:=C.s) rfl (.tmp 6) rfl rfl RB.out ?_))
      refine(GO.out _ _ I1.out).mono ?_
      rintro e wc ⟨rfl,v3,rr,rg⟩
      have I2:=hid (I1.out.Xc HJ.out rr rg)
      obtain⟨Fp,jT⟩: ∃Fp,Eo C.L C.s.size q now (0,q)=Fp:=⟨_,rfl⟩
      rw[jT]at I2 a_
      have F2:Hid (Fit n Fp):=by
       have h1:=Iz (BR.Ga Yb.out) (n:=C.s.size) (q:=q) (M:=now) (m:=(0,q)) (by rw[GX.out];exact F1.out) (BR.Ga Yb.out).some_
       rw[jT,GX.out]at h1
       exact h1
      clear rr rg jT a0 hk1 hk2 tq GO I1 oQ
      generalize FL T wr wc=T1 at I2
      obtain⟨A1,c1,rfl,hk1,hk2⟩:=I2.out.FW.form
      unfold maxLen at hk2
      obtain⟨k,hk⟩: ∃k,Fp.length=k:=⟨_,rfl⟩
      have HK:=hid hk
      have a0:=I2.out.FW.c0
      rw[hk]at a0 I2 hk1
      have HKC:=hid (show k<=c1/\c1<=9223372036854775807 from⟨hk1,hk2⟩)
      clear hk hk1 hk2
      go_wp2_with fail
      go_step3
      go_wp2_with fail
      clear a0
      rename_i K hK
      have hrest: ∀(T2:Nat->Prop) (bg:Nat) (en:Bool) (wz:World) (v4:Value) (v14 v15 v30 v31 v32 v33 v34 v35 v36 v37 v38 v39 v40 v41 v42 v43 v44 v45 v46 v47 v48 v49 v50 v51 v52 v53 v54 v55 v56 v57 v58 v59 v60 v61 v62 v63 v64 v65 v66 v67 v68 v69 v70 v71 v72 v73 v74 v75 v76 v77 v78 v79 v80 v81 v82 v83 v84 v85 v86 v87 uw v89 uy v91 uz v93 u7 u_ vB vC vD vE jU jV jW jX jY v105 jZ v107 ja v109 jb jc jd je:Value),Hid (It C J T0 W T2 pre wz b6 r1 g1 (.slice A1 k c1) Fp r2 g2 v4 NX)->Hid (E=if en then some bg else none)->K {tmps:= #[.func (.yield l) #[] #[],.pointer (some ⟨C.b,0,none⟩),.pointer (some ⟨C.b+1,0,none⟩),.pointer (some ⟨C.b+3,0,none⟩),.pointer (some ⟨C.b+2,0,none⟩),undef,.pointer (some ⟨b6,0,none⟩),.pointer (some ⟨r1,0,none⟩),.pointer (some ⟨r2,0,none⟩),.int .i64 u,.int .i64 q,.int .i64 bg,.bool en,undef,v14,v15,.slice A n cl,.bool true,.bool false,.slice A n cl,.string C.s,.agg #[.slice A n cl,.string C.s],.slice A n cl,.int .i64 n,.pointer (some ⟨wT,0,none⟩),.slice A n cl,.int .i64 n,.pointer (some ⟨wU,0,none⟩),.int .i64 C.last,.int .i64 C.first,v30,v31,v32,v33,v34,v35,v36,v37,v38,v39,v40,v41,v42,v43,v44,v45,v46,v47,v48,v49,v50,v51,v52,v53,v54,v55,v56,v57,v58,v59,v60,v61,v62,v63,v64,v65,v66,v67,v68,v69,v70,v71,v72,v73,v74,v75,v76,v77,v78,v79,v80,v81,v82,v83,v84,v85,v86,v87,uw,v89,uy,v91,uz,v93,u7,u_,vB,vC,vD,vE,jU,jV,jW,jX,jY,v105,jZ,v107,ja,v109,jb,jc,jd,je],defers:= []} wz:=by
       intro T2 bg en wz v4 v14 v15 v30 v31 v32 v33 v34 v35 v36 v37 v38 v39 v40 v41 v42 v43 v44 v45 v46 v47 v48 v49 v50 v51 v52 v53 v54 v55 v56 v57 v58 v59 v60 v61 v62 v63 v64 v65 v66 v67 v68 v69 v70 v71 v72 v73 v74 v75 v76 v77 v78 v79 v80 v81 v82 v83 v84 v85 v86 v87 uw v89 uy v91 uz v93 u7 u_ vB vC vD vE jU jV jW jX jY v105 jZ v107 ja v109 jb jc jd je I3 HE
       clear I2
       cases en with
       |false=>
        refine hK _ _ ?_
        clear hK
        have he:E=none:=HE.out
        subst he
        go_wp2_with fail
        refine(KV I3.out.FW (by rw[GX.out];exact F2.out) (by rw[GX.out];exact HN.out)).mono ?_
        rintro e wd ⟨rfl,v6,rr,rg⟩
        have I4:=hid (I3.out.Xc HJ.out rr rg).swap
        clear rr rg I3 HE
        go_wp2_with fail
        simp only[Exit.noGoto,Exit.inBlock,Exit.then]
        go_wp2_with fail
        go_roundg gk
        case measure=>omega
        case rel=>exact⟨_,pre,q+1,u,r2,g2,r1,g1,v4,v6,NX,rfl,rfl,rfl,by first|rfl|exact congrArg (Value.int .i64) hwq.out,I4,oP,YY,by have:=HQ.out;exact⟨by omega,by omega,oO.out⟩⟩
       |true=>
        refine hK _ _ ?_
        clear hK
        have he:E=some bg:=HE.out
        subst he
        have ZV:Hid ((pre++ [(bg,q)])++run C.L S gk (q+1) q NX=xs):=by unfold Hid;rw[<-YY.out];simp[after]
        obtain⟨fn1,tm1,as1,bd1,hy1,vF⟩:=HY.out T2 pre (bg,q) wz I3.out.j I3.out.lies ⟨_,ZV.out⟩
        unfold jO at hy1
        simp only at hy1
        refine(wpIn_wide (n:=9)).1 ?_
        gi_wp2
        refine(FY _ vF).mono ?_
        rintro e W3 ⟨ht3,(⟨rfl,hJ3⟩|⟨rfl,hJx3⟩)⟩
        ·have I4:=hid (I3.out.round hJ3 ht3)
         clear hy1 vF ht3 hJ3 HE I3
         gi_wp2
         refine⟨trivial,?_⟩
         refine(callsIn_wide.2 (KV I4.out.FW (by rw[GX.out];exact F2.out) (by rw[GX.out];exact HN.out))).mono ?_
         rintro e wd ⟨rfl,v6,rr,rg⟩
         have I5:=hid (I4.out.Xc HJ.out rr rg).swap
         clear rr rg I4
         gi_wp2
         simp only[Exit.noGoto,Exit.inBlock,Exit.then]
         go_wp2_with fail
         go_roundg gk
         case measure=>omega
         case rel=>exact⟨_,pre++ [(bg,q)],q+1,q,r2,g2,r1,g1,v4,v6,NX,rfl,rfl,rfl,by first|rfl|exact congrArg (Value.int .i64) hwq.out,I5,oP,ZV,by have:=HQ.out;exact⟨by omega,by have:=HU.out;have:=uM.out;omega,oO.out⟩⟩
        gi_wp2
        simp only[Exit.noGoto,Exit.inBlock,Exit.then]
        refine bodyPost_ret (results_none rfl _ _ _) rfl ?_
        exact⟨⟨_,rfl⟩,I3.out.all.trans (ht3.wider fun k h=>h.1),T2,I3.out.lies.more ht3.size,I3.out.sub,Or.inr ⟨_,⟨_,ZV.out⟩,hJx3⟩⟩
      go_loopg [11,12,57] k (fun Lf s11 s12 yC wr=> ∃(i:Nat) (T2:Nat->Prop) (bg:Nat) (en:Bool) (v4:Value) (nx:List BR.Mark),s11= .int .i64 bg/\s12= .bool en/\yC= .int .i64 i/\Hid (i+Lf=k)/\Hid (It C J T0 W T2 pre wr b6 r1 g1 (.slice A1 k c1) Fp r2 g2 v4 nx)/\Hid (Fit n nx)/\Hid (scan C.L S q (Fp.drop i) (if en then some bg else none) nx=(E,NX)))
      case atStart=>exact⟨0,T1,0,false,v2,[],rfl,rfl,rfl,by unfold Hid;omega,I2,⟨by simp[steps],by simp⟩,by unfold Hid;rw[<-uu.out,a_.out];rfl⟩
      case round=>
       clear I2
       obtain⟨i,T2,bg,en,v4,nx,rfl,rfl,rfl,hig,I3,F3,oU⟩:=hrel
       by_cases hik:i<k
       ·cases gk with
        |zero=>exact absurd hig.out (by omega)
        |succ Lf=>
         have tk:(i:Int)<(k:Int):=by omega
         have hil:i<Fp.length:=by rw[HK.out];exact hik
         obtain⟨⟨j0,b0⟩,hx0⟩: ∃x,Fp[i]=x:=⟨_,rfl⟩
         have hj0:j0<n:=by have:=F2.out.2 Fp[i] (List.getElem_mem hil);rw[hx0]at this;exact this
         obtain⟨gm,c',e,-,-,-,-⟩:=BL I3.out.FW.own (by omega)
         have eA:A1=some ⟨gm,0,none⟩:=by injection e
         subst eA
         clear e
         have hmc:=LZ I3.out.FW.own HK.out hil
         rw[hx0]at hmc
         have az:=hid hmc
         have HD:Hid (Fp.drop i=(j0,b0)::Fp.drop (i+1)):=by unfold Hid;rw[List.drop_eq_getElem_cons hil,hx0]
         have hlc:=I3.out.prog
         rw[Le.out]at hlc
         obtain⟨gl,ol,hjl,rfl,-,hcl⟩:=hlc.Gq BJ (by decide) (k:=j0) hj0
         have hii:ins C.L j0=C.L[j0]:=by unfold ins;rw[List.getD_eq_getElem?_getD,List.getElem?_eq_getElem hjl];rfl
         rw[<-hii]at hcl
         obtain⟨⟨kx,tx,X,Y⟩,hx1⟩: ∃x,ins C.L j0=x:=⟨_,rfl⟩
         have HX:=hid hx1
         have hok:=BR.Qt Yb.out hjl
         rw[hx1,GX.out]at hok
         have HT1:Hid (kx=1->tx.size=1):=fun hk=>by
          subst hk
          unfold Bv.ae at hok
          rw[Bool.and_eq_true]at hok
          have:=hok.1
          simpa [Bv.Je]using this
         have dK:Hid (kx≠7->0<=X/\X<n/\1<=kx/\kx<=8/\(kx=6->0<=Y/\Y<n)):=fun hk=>BR.XM hok hk
         rw[hx1]at hcl
         have jf:=hid hcl
         have IP:=I3.out.Iy.c0
         rw[Le.out]at IP
         have hjn:(j0:Int)<(n:Int):=by omega
         have DT:Hid (wrap64 ((i:Int)+1)=((i+1:Nat):Int)):=by unfold Hid wrap64;have:=F2.out.len;rw[HK.out]at this;have:=HN.out;omega
         obtain⟨q1,hq1⟩: ∃q1,q+1=q1:=⟨_,rfl⟩
         have dV:=hid hq1
         clear hil hmc hx0 hii hx1 hok hcl hlc hjl hq1 hik hj0
         cases en with
         |false=>
          have jg:Hid ((if(ins C.L j0).kind=7 then scan C.L S q (Fp.drop (i+1)) (some b0) nx else scan C.L S q (Fp.drop (i+1)) none (BR.GD C.L S q nx (j0,b0)))=(E,NX)):=by have:=oU.out;rw[HD.out,scan]at this;unfold Hid;simpa [BR.past]using this
          by_cases k7:kx=7
          ·subst k7
           have Nr:Hid (scan C.L S q (Fp.drop (i+1)) (some b0) nx=(E,NX)):=by have:=jg.out;rw[HX.out]at this;unfold Hid;simpa using this
           go_wp2_with (first
            |(refine Dv (r:=(j0,b0)) rfl (.tmp 59) rfl rfl az.out ?_)
            |(refine DX rfl rfl ?_;intro w3 b14 e3 p3 l3 z3)
            |(refine DY (r:=(j0,b0)) rfl (.tmp 14) (.tmp 60) rfl rfl rfl p3 ?_;intro w4 p4 l4 z4;have L4:=hid (AY l3 l4 e3);have P4:=hid p4;have m0:=p4.c0;have IP:=(L4.out.cell (World.block_lt_of_cell? wr _ IP)).trans IP;clear e3 p3 l3 z3 p4 l4 z4;simp only at m0)
            |(refine DI rfl (.tmp 64) rfl rfl (r:=⟨7,tx,X,Y⟩) (Dp jf.out L4.out) ?_)
            |(refine Cw rfl rfl ?_;intro w5 b15 e5 p5 l5 z5)
            |(refine Cx (r:=⟨7,tx,X,Y⟩) rfl (.tmp 15) (.tmp 65) rfl rfl rfl p5 ?_;intro wx p6 l6 z6;have L6:=hid (AY l5 l6 e5);have TD:=hid p6;have Ns:=hid (P4.out.below L6.out);have I4:=hid (I3.out.below HJ.out (on L4.out L6.out));have c0:=p6.c0;have d1:=Ns.out.c1;clear e5 p5 l5 z5 p6 l6 z6 m0 IP;simp only at c0 d1))
           go_roundg Lf
           case measure=>omega
           case rel=>exact⟨i+1,_,b0,true,v4,nx,rfl,rfl,by first|rfl|exact congrArg (Value.int .i64) DT.out,by have:=hig.out;unfold Hid;omega,I4,F3,Nr⟩
          have t7:(kx==7)=false:=by simpa using k7
          have Nr:Hid (scan C.L S q (Fp.drop (i+1)) (none) (BR.GD C.L S q nx (j0,b0))=(E,NX)):=by have:=jg.out;rw[HX.out]at this;rwa[if_neg k7]at this
          go_wp2_with (first
           |(refine Dv (r:=(j0,b0)) rfl (.tmp 59) rfl rfl az.out ?_)
           |(refine DX rfl rfl ?_;intro w3 b14 e3 p3 l3 z3)
           |(refine DY (r:=(j0,b0)) rfl (.tmp 14) (.tmp 60) rfl rfl rfl p3 ?_;intro w4 p4 l4 z4;have L4:=hid (AY l3 l4 e3);have P4:=hid p4;have m0:=p4.c0;have IP:=(L4.out.cell (World.block_lt_of_cell? wr _ IP)).trans IP;clear e3 p3 l3 z3 p4 l4 z4;simp only at m0)
           |(refine DI rfl (.tmp 64) rfl rfl (r:=⟨kx,tx,X,Y⟩) (Dp jf.out L4.out) ?_)
           |(refine Cw rfl rfl ?_;intro w5 b15 e5 p5 l5 z5)
           |(refine Cx (r:=⟨kx,tx,X,Y⟩) rfl (.tmp 15) (.tmp 65) rfl rfl rfl p5 ?_;intro wx p6 l6 z6;have L6:=hid (AY l5 l6 e5);have TD:=hid p6;have Ns:=hid (P4.out.below L6.out);have I4:=hid (I3.out.below HJ.out (on L4.out L6.out));have c0:=p6.c0;have d1:=Ns.out.c1;clear e5 p5 l5 z5 p6 l6 z6 m0 IP;simp only at c0 d1))
          by_cases Kk:q<C.s.size
          ·have sM:(q:Int)<(C.s.size:Int):=by omega
           have iZ:=hid Kk
           have jh:S[q]? =some (C.s[q]'iZ.out):=by rw[<-qV.out];exact List.getElem?_eq_getElem (by rw[<-Lib.size_eq];exact Kk)
           have ji:=hid jh
           clear jh Kk
           obtain⟨R,hR⟩: ∃R,BR.takes ⟨kx,tx,X,Y⟩ (C.s[q]'iZ.out)=R:=⟨_,rfl⟩
           have ZW:=hid hR
           clear hR
           have S0:Hid ((wx.drewN 1).cell? ⟨C.b+1,0,none⟩=some (.string C.s)/\CS (wx.drewN 1) b15 ⟨kx,tx,X,Y⟩):=⟨I4.out.Iy.c1,TD.out⟩
           have I5:=hid (I4.out.below HJ.out (below_draws wx 1))
           have M5:=hid (Ns.out.below (below_draws wx 1))
           refine wp_region_held_drew (S:=fun w'=>w'.cell? ⟨C.b+1,0,none⟩=some (.string C.s)/\CS w' b15 ⟨kx,tx,X,Y⟩) (by kernel_rfl) S0.out (fun hHeld=> ?_)
           refine Take.k 0 ⟨some 81,.move (.tmp 10),_,_,_,none⟩ ?_
           refine Take.k 1 ⟨some 82,.load 9 (.tmp 2),_,_,_,none⟩ ?_
           refine Take.k 2 ⟨some 83,.call ⟨.builtin .len, #[.tmp 82], #[9]⟩,_,_,_,none⟩ ?_
           refine Take.k 3 ⟨some 84,.binOp .lss 3 (.tmp 81) (.tmp 83) 3,_,_,_,none⟩ ?_
           refine Take.k 4 ⟨some 85,.move (.tmp 84),_,_,_,none⟩ ?_
           refine Take.k 5 ⟨some 86,.load 106 (.tmp 15),_,_,_,some (4,true)⟩ ?_ (hy:=Or.inl ⟨by rfl,by(intro w hSw;(try dsimp only at hSw);refine DR (.tmp 15) ?_ ?_ (JR hSw.2)<;>rfl)⟩)
           refine Take.k 6 ⟨some 87,.load 9 (.tmp 2),_,_,_,some (4,true)⟩ ?_
           refine Take.k 7 ⟨some 88,.move (.tmp 10),_,_,_,some (4,true)⟩ ?_
           refine Take.k 8 ⟨some 89,.index 9 (.tmp 87) (.tmp 88),_,_,_,some (4,true)⟩ ?_
           refine wpAnyH_ready (rs:= [9]) (by kernel_rfl) (by simp) ?_
           refine AllReadyH.cons (o:=⟨some 90,.call ⟨.value (.func 115), #[.tmp 86,.tmp 89], #[106,5]⟩,_,_,_,some (4,true)⟩) rfl (fun K hK=> ?_) AllReadyH.nil
           go_simp
           (go_at_call 115;refine(KQ (x:=⟨kx,tx,X,Y⟩) HT1.out (C.s[q]'iZ.out) _).mono ?_;rintro e wt ⟨rfl,lt⟩;have LT:=hid lt;clear lt)
           go_wp2_with fail
           refine hK.out _ _ ?_ (fun hHeld=> ?_)
           ·exact⟨(LT.out.cell (World.block_lt_of_cell? _ _ S0.out.1)).trans S0.out.1,S0.out.2.below LT.out⟩
           clear hK K
           try simp only[Act.put,Take.a,Take.b,Take.c]
           refine Take.k 10 ⟨some 91,.pick (.tmp 85) (.tmp 90) (.const (.bool false)),_,_,_,none⟩ ?_
           refine Take.k 11 ⟨some 80,.assign (.tmp 91),_,_,_,none⟩ ?_
           refine wpAnyH_done (by kernel_rfl) ?_ _
           rw[ZW.out]
           have I6:=hid (I5.out.below HJ.out LT.out)
           cases R with
           |false=>
            have HAD:Hid (BR.GD C.L S q nx (j0,b0)=nx):=by unfold Hid BR.GD;rw[ji.out];simp only;rw[HX.out,ZW.out];rfl
            have Gz:Hid (scan C.L S q (Fp.drop (i+1)) (none) nx=(E,NX)):=by have:=Nr.out;rwa[HAD.out]at this
            go_wp2_with fail
            go_roundg Lf
            case measure=>omega
            case rel=>exact⟨i+1,_,bg,false,v4,nx,rfl,rfl,by first|rfl|exact congrArg (Value.int .i64) DT.out,by have:=hig.out;unfold Hid;omega,I6,F3,Gz⟩
           |true=>
            have VR:=dK.out k7
            obtain⟨jx,rfl⟩: ∃jx:Nat,X=(jx:Int):=⟨X.toNat,by have:=VR.1;omega⟩
            have RQ:Hid (jx<n):=by unfold Hid;have:=VR.2.1;omega
            have HAD:Hid (BR.GD C.L S q nx (j0,b0)=Eo C.L C.s.size q1 nx (jx,b0)):=by unfold Hid BR.GD;rw[ji.out];simp only;rw[HX.out,ZW.out,YX.out,dV.out];rfl
            have Gz:Hid (scan C.L S q (Fp.drop (i+1)) (none) (Eo C.L C.s.size q1 nx (jx,b0))=(E,NX)):=by have:=Nr.out;rwa[HAD.out]at this
            have m1:=(M5.out.below LT.out).c1
            have x2:=(TD.out.below (on (below_draws wx 1) LT.out)).c2
            simp only at m1 x2
            have RB:Hid (GJ wt b6 (.slice (some ⟨gl,ol,none⟩) n cl) C.s):=by have:=I6.out.run;rw[Le.out]at this;exact this
            have oQ:=Gy (jx:Int) (b0:Int)
            have hw1:wrap64 ((q:Int)+1)=(q1:Int):=by have:=hwq.out;rw[dV.out]at this;exact this
            have GO:=hid (J4 I6.out.prog Yb.out (by rw[GX.out];exact HN.out) I6.out.Ld (by rw[GX.out];exact F3.out) C.s (jx,b0) (by rw[GX.out];exact RQ.out) q1 (by have:=uM.out;have:=HU.out;have:=dV.out;omega))
            rw[Le.out]at GO
            clear VR
            go_wp2_with (first|(refine J6 (lv:= .slice (some ⟨gl,ol,none⟩) n cl) (s:=C.s) rfl (.tmp 6) rfl rfl RB.out ?_))
            refine GO.out.mono ?_
            rintro e wg ⟨rfl,v7,rr,rg⟩
            have I7:=hid (I6.out.Xb HJ.out rr rg)
            have F7:Hid (Fit n (Eo C.L C.s.size q1 nx (jx,b0))):=by have h1:=Iz (BR.Ga Yb.out) (n:=C.s.size) (q:=q1) (M:=nx) (m:=(jx,b0)) (by rw[GX.out];exact F3.out) (by rw[GX.out];exact RQ.out);rw[GX.out]at h1;exact h1
            clear rr rg m1 x2 oQ hw1 GO
            go_wp2_with fail
            go_roundg Lf
            case measure=>omega
            case rel=>exact⟨i+1,_,bg,false,v7,(Eo C.L C.s.size q1 nx (jx,b0)),rfl,rfl,by first|rfl|exact congrArg (Value.int .i64) DT.out,by have:=hig.out;unfold Hid;omega,I7,F7,Gz⟩
          have sM: ¬(q:Int)<(C.s.size:Int):=by omega
          have HAD:Hid (BR.GD C.L S q nx (j0,b0)=nx):=by unfold Hid BR.GD;rw[List.getElem?_eq_none (by rw[YX.out];omega)]
          have Gz:Hid (scan C.L S q (Fp.drop (i+1)) (none) nx=(E,NX)):=by have:=Nr.out;rwa[HAD.out]at this
          clear Kk
          have S0:Hid ((wx.drewN 1).cell? ⟨C.b+1,0,none⟩=some (.string C.s)/\CS (wx.drewN 1) b15 ⟨kx,tx,X,Y⟩):=⟨I4.out.Iy.c1,TD.out⟩
          have I5:=hid (I4.out.below HJ.out (below_draws wx 1))
          have M5:=hid (Ns.out.below (below_draws wx 1))
          refine wp_region_held_drew (S:=fun w'=>w'.cell? ⟨C.b+1,0,none⟩=some (.string C.s)/\CS w' b15 ⟨kx,tx,X,Y⟩) (by kernel_rfl) S0.out (fun hHeld=> ?_)
          refine Take.k 0 ⟨some 81,.move (.tmp 10),_,_,_,none⟩ ?_
          refine Take.k 1 ⟨some 82,.load 9 (.tmp 2),_,_,_,none⟩ ?_
          refine Take.k 2 ⟨some 83,.call ⟨.builtin .len, #[.tmp 82], #[9]⟩,_,_,_,none⟩ ?_
          refine Take.k 3 ⟨some 84,.binOp .lss 3 (.tmp 81) (.tmp 83) 3,_,_,_,none⟩ ?_
          refine Take.k 4 ⟨some 85,.move (.tmp 84),_,_,_,none⟩ ?_
          refine Take.u 5 ⟨some 86,.load 106 (.tmp 15),_,_,_,some (4,true)⟩ ?_
          refine Take.u 6 ⟨some 87,.load 9 (.tmp 2),_,_,_,some (4,true)⟩ ?_
          refine Take.u 7 ⟨some 88,.move (.tmp 10),_,_,_,some (4,true)⟩ ?_
          refine Take.u 8 ⟨some 89,.index 9 (.tmp 87) (.tmp 88),_,_,_,some (4,true)⟩ ?_
          refine Take.u 9 ⟨some 90,.call ⟨.value (.func 115), #[.tmp 86,.tmp 89], #[106,5]⟩,_,_,_,some (4,true)⟩ ?_
          refine Take.k 10 ⟨some 91,.pick (.tmp 85) (.tmp 90) (.const (.bool false)),_,_,_,none⟩ ?_
          refine Take.k 11 ⟨some 80,.assign (.tmp 91),_,_,_,none⟩ ?_
          refine wpAnyH_done (by kernel_rfl) ?_ _
          go_wp2_with fail
          go_roundg Lf
          case measure=>omega
          case rel=>exact⟨i+1,_,bg,false,v4,nx,rfl,rfl,by first|rfl|exact congrArg (Value.int .i64) DT.out,by have:=hig.out;unfold Hid;omega,I5,F3,Gz⟩
         |true=>
          by_cases hpast:bg<b0
          ·have tp:(bg:Int)<(b0:Int):=by omega
           have hsc:=oU.out
           rw[HD.out,scan]at hsc
           simp only[BR.past,hpast,decide_true,if_true]at hsc
           have hE:some bg=E:=congrArg Prod.fst hsc
           have hX:nx=NX:=congrArg Prod.snd hsc
           subst hX
           have HE:Hid (E=if true=true then some bg else none):=hE.symm
           clear hsc hE hpast
           go_wp2_with (first
            |(refine Dv (r:=(j0,b0)) rfl (.tmp 59) rfl rfl az.out ?_)
            |(refine DX rfl rfl ?_;intro w3 b14 e3 p3 l3 z3)
            |(refine DY (r:=(j0,b0)) rfl (.tmp 14) (.tmp 60) rfl rfl rfl p3 ?_;intro w4 p4 l4 z4;have L4:=hid (AY l3 l4 e3);have P4:=hid p4;have m0:=p4.c0;have IP:=(L4.out.cell (World.block_lt_of_cell? wr _ IP)).trans IP;clear e3 p3 l3 z3 p4 l4 z4;simp only at m0)
            |(refine DI rfl (.tmp 64) rfl rfl (r:=⟨kx,tx,X,Y⟩) (Dp jf.out L4.out) ?_)
            |(refine Cw rfl rfl ?_;intro w5 b15 e5 p5 l5 z5)
            |(refine Cx (r:=⟨kx,tx,X,Y⟩) rfl (.tmp 15) (.tmp 65) rfl rfl rfl p5 ?_;intro wx p6 l6 z6;have L6:=hid (AY l5 l6 e5);have TD:=hid p6;have Ns:=hid (P4.out.below L6.out);have I4:=hid (I3.out.below HJ.out (on L4.out L6.out));have c0:=p6.c0;have d1:=Ns.out.c1;clear e5 p5 l5 z5 p6 l6 z6 m0 IP;simp only at c0 d1))
           exact hrest _ _ _ _ _ _ _ _ _ _ _ _ _ _ _ _ _ _ _ _ _ _ _ _ _ _ _ _ _ _ _ _ _ _ _ _ _ _ _ _ _ _ _ _ _ _ _ _ _ _ _ _ _ _ _ _ _ _ _ _ _ _ _ _ _ _ _ _ _ _ _ _ _ _ _ _ _ _ _ _ _ _ _ _ _ _ _ _ _ _ _ I4 HE
          have tp: ¬(bg:Int)<(b0:Int):=by omega
          have jg:Hid ((if(ins C.L j0).kind=7 then scan C.L S q (Fp.drop (i+1)) (some b0) nx else scan C.L S q (Fp.drop (i+1)) (some bg) (BR.GD C.L S q nx (j0,b0)))=(E,NX)):=by have:=oU.out;rw[HD.out,scan]at this;unfold Hid;simpa [BR.past,hpast]using this
          clear hpast
          by_cases k7:kx=7
          ·subst k7
           have Nr:Hid (scan C.L S q (Fp.drop (i+1)) (some b0) nx=(E,NX)):=by have:=jg.out;rw[HX.out]at this;unfold Hid;simpa using this
           go_wp2_with (first
            |(refine Dv (r:=(j0,b0)) rfl (.tmp 59) rfl rfl az.out ?_)
            |(refine DX rfl rfl ?_;intro w3 b14 e3 p3 l3 z3)
            |(refine DY (r:=(j0,b0)) rfl (.tmp 14) (.tmp 60) rfl rfl rfl p3 ?_;intro w4 p4 l4 z4;have L4:=hid (AY l3 l4 e3);have P4:=hid p4;have m0:=p4.c0;have IP:=(L4.out.cell (World.block_lt_of_cell? wr _ IP)).trans IP;clear e3 p3 l3 z3 p4 l4 z4;simp only at m0)
            |(refine DI rfl (.tmp 64) rfl rfl (r:=⟨7,tx,X,Y⟩) (Dp jf.out L4.out) ?_)
            |(refine Cw rfl rfl ?_;intro w5 b15 e5 p5 l5 z5)
            |(refine Cx (r:=⟨7,tx,X,Y⟩) rfl (.tmp 15) (.tmp 65) rfl rfl rfl p5 ?_;intro wx p6 l6 z6;have L6:=hid (AY l5 l6 e5);have TD:=hid p6;have Ns:=hid (P4.out.below L6.out);have I4:=hid (I3.out.below HJ.out (on L4.out L6.out));have c0:=p6.c0;have d1:=Ns.out.c1;clear e5 p5 l5 z5 p6 l6 z6 m0 IP;simp only at c0 d1))
           go_roundg Lf
           case measure=>omega
           case rel=>exact⟨i+1,_,b0,true,v4,nx,rfl,rfl,by first|rfl|exact congrArg (Value.int .i64) DT.out,by have:=hig.out;unfold Hid;omega,I4,F3,Nr⟩
          have t7:(kx==7)=false:=by simpa using k7
          have Nr:Hid (scan C.L S q (Fp.drop (i+1)) (some bg) (BR.GD C.L S q nx (j0,b0))=(E,NX)):=by have:=jg.out;rw[HX.out]at this;rwa[if_neg k7]at this
          go_wp2_with (first
           |(refine Dv (r:=(j0,b0)) rfl (.tmp 59) rfl rfl az.out ?_)
           |(refine DX rfl rfl ?_;intro w3 b14 e3 p3 l3 z3)
           |(refine DY (r:=(j0,b0)) rfl (.tmp 14) (.tmp 60) rfl rfl rfl p3 ?_;intro w4 p4 l4 z4;have L4:=hid (AY l3 l4 e3);have P4:=hid p4;have m0:=p4.c0;have IP:=(L4.out.cell (World.block_lt_of_cell? wr _ IP)).trans IP;clear e3 p3 l3 z3 p4 l4 z4;simp only at m0)
           |(refine DI rfl (.tmp 64) rfl rfl (r:=⟨kx,tx,X,Y⟩) (Dp jf.out L4.out) ?_)
           |(refine Cw rfl rfl ?_;intro w5 b15 e5 p5 l5 z5)
           |(refine Cx (r:=⟨kx,tx,X,Y⟩) rfl (.tmp 15) (.tmp 65) rfl rfl rfl p5 ?_;intro wx p6 l6 z6;have L6:=hid (AY l5 l6 e5);have TD:=hid p6;have Ns:=hid (P4.out.below L6.out);have I4:=hid (I3.out.below HJ.out (on L4.out L6.out));have c0:=p6.c0;have d1:=Ns.out.c1;clear e5 p5 l5 z5 p6 l6 z6 m0 IP;simp only at c0 d1))
          by_cases Kk:q<C.s.size
          ·have sM:(q:Int)<(C.s.size:Int):=by omega
           have iZ:=hid Kk
           have jh:S[q]? =some (C.s[q]'iZ.out):=by rw[<-qV.out];exact List.getElem?_eq_getElem (by rw[<-Lib.size_eq];exact Kk)
           have ji:=hid jh
           clear jh Kk
           obtain⟨R,hR⟩: ∃R,BR.takes ⟨kx,tx,X,Y⟩ (C.s[q]'iZ.out)=R:=⟨_,rfl⟩
           have ZW:=hid hR
           clear hR
           have S0:Hid ((wx.drewN 1).cell? ⟨C.b+1,0,none⟩=some (.string C.s)/\CS (wx.drewN 1) b15 ⟨kx,tx,X,Y⟩):=⟨I4.out.Iy.c1,TD.out⟩
           have I5:=hid (I4.out.below HJ.out (below_draws wx 1))
           have M5:=hid (Ns.out.below (below_draws wx 1))
           refine wp_region_held_drew (S:=fun w'=>w'.cell? ⟨C.b+1,0,none⟩=some (.string C.s)/\CS w' b15 ⟨kx,tx,X,Y⟩) (by kernel_rfl) S0.out (fun hHeld=> ?_)
           refine Take.k 0 ⟨some 81,.move (.tmp 10),_,_,_,none⟩ ?_
           refine Take.k 1 ⟨some 82,.load 9 (.tmp 2),_,_,_,none⟩ ?_
           refine Take.k 2 ⟨some 83,.call ⟨.builtin .len, #[.tmp 82], #[9]⟩,_,_,_,none⟩ ?_
           refine Take.k 3 ⟨some 84,.binOp .lss 3 (.tmp 81) (.tmp 83) 3,_,_,_,none⟩ ?_
           refine Take.k 4 ⟨some 85,.move (.tmp 84),_,_,_,none⟩ ?_
           refine Take.k 5 ⟨some 86,.load 106 (.tmp 15),_,_,_,some (4,true)⟩ ?_ (hy:=Or.inl ⟨by rfl,by(intro w hSw;(try dsimp only at hSw);refine DR (.tmp 15) ?_ ?_ (JR hSw.2)<;>rfl)⟩)
           refine Take.k 6 ⟨some 87,.load 9 (.tmp 2),_,_,_,some (4,true)⟩ ?_
           refine Take.k 7 ⟨some 88,.move (.tmp 10),_,_,_,some (4,true)⟩ ?_
           refine Take.k 8 ⟨some 89,.index 9 (.tmp 87) (.tmp 88),_,_,_,some (4,true)⟩ ?_
           refine wpAnyH_ready (rs:= [9]) (by kernel_rfl) (by simp) ?_
           refine AllReadyH.cons (o:=⟨some 90,.call ⟨.value (.func 115), #[.tmp 86,.tmp 89], #[106,5]⟩,_,_,_,some (4,true)⟩) rfl (fun K hK=> ?_) AllReadyH.nil
           go_simp
           (go_at_call 115;refine(KQ (x:=⟨kx,tx,X,Y⟩) HT1.out (C.s[q]'iZ.out) _).mono ?_;rintro e wt ⟨rfl,lt⟩;have LT:=hid lt;clear lt)
           go_wp2_with fail
           refine hK.out _ _ ?_ (fun hHeld=> ?_)
           ·exact⟨(LT.out.cell (World.block_lt_of_cell? _ _ S0.out.1)).trans S0.out.1,S0.out.2.below LT.out⟩
           clear hK K
           try simp only[Act.put,Take.a,Take.b,Take.c]
           refine Take.k 10 ⟨some 91,.pick (.tmp 85) (.tmp 90) (.const (.bool false)),_,_,_,none⟩ ?_
           refine Take.k 11 ⟨some 80,.assign (.tmp 91),_,_,_,none⟩ ?_
           refine wpAnyH_done (by kernel_rfl) ?_ _
           rw[ZW.out]
           have I6:=hid (I5.out.below HJ.out LT.out)
           cases R with
           |false=>
            have HAD:Hid (BR.GD C.L S q nx (j0,b0)=nx):=by unfold Hid BR.GD;rw[ji.out];simp only;rw[HX.out,ZW.out];rfl
            have Gz:Hid (scan C.L S q (Fp.drop (i+1)) (some bg) nx=(E,NX)):=by have:=Nr.out;rwa[HAD.out]at this
            go_wp2_with fail
            go_roundg Lf
            case measure=>omega
            case rel=>exact⟨i+1,_,bg,true,v4,nx,rfl,rfl,by first|rfl|exact congrArg (Value.int .i64) DT.out,by have:=hig.out;unfold Hid;omega,I6,F3,Gz⟩
           |true=>
            have VR:=dK.out k7
            obtain⟨jx,rfl⟩: ∃jx:Nat,X=(jx:Int):=⟨X.toNat,by have:=VR.1;omega⟩
            have RQ:Hid (jx<n):=by unfold Hid;have:=VR.2.1;omega
            have HAD:Hid (BR.GD C.L S q nx (j0,b0)=Eo C.L C.s.size q1 nx (jx,b0)):=by unfold Hid BR.GD;rw[ji.out];simp only;rw[HX.out,ZW.out,YX.out,dV.out];rfl
            have Gz:Hid (scan C.L S q (Fp.drop (i+1)) (some bg) (Eo C.L C.s.size q1 nx (jx,b0))=(E,NX)):=by have:=Nr.out;rwa[HAD.out]at this
            have m1:=(M5.out.below LT.out).c1
            have x2:=(TD.out.below (on (below_draws wx 1) LT.out)).c2
            simp only at m1 x2
            have RB:Hid (GJ wt b6 (.slice (some ⟨gl,ol,none⟩) n cl) C.s):=by have:=I6.out.run;rw[Le.out]at this;exact this
            have oQ:=Gy (jx:Int) (b0:Int)
            have hw1:wrap64 ((q:Int)+1)=(q1:Int):=by have:=hwq.out;rw[dV.out]at this;exact this
            have GO:=hid (J4 I6.out.prog Yb.out (by rw[GX.out];exact HN.out) I6.out.Ld (by rw[GX.out];exact F3.out) C.s (jx,b0) (by rw[GX.out];exact RQ.out) q1 (by have:=uM.out;have:=HU.out;have:=dV.out;omega))
            rw[Le.out]at GO
            clear VR
            go_wp2_with (first|(refine J6 (lv:= .slice (some ⟨gl,ol,none⟩) n cl) (s:=C.s) rfl (.tmp 6) rfl rfl RB.out ?_))
            refine GO.out.mono ?_
            rintro e wg ⟨rfl,v7,rr,rg⟩
            have I7:=hid (I6.out.Xb HJ.out rr rg)
            have F7:Hid (Fit n (Eo C.L C.s.size q1 nx (jx,b0))):=by have h1:=Iz (BR.Ga Yb.out) (n:=C.s.size) (q:=q1) (M:=nx) (m:=(jx,b0)) (by rw[GX.out];exact F3.out) (by rw[GX.out];exact RQ.out);rw[GX.out]at h1;exact h1
            clear rr rg m1 x2 oQ hw1 GO
            go_wp2_with fail
            go_roundg Lf
            case measure=>omega
            case rel=>exact⟨i+1,_,bg,true,v7,(Eo C.L C.s.size q1 nx (jx,b0)),rfl,rfl,by first|rfl|exact congrArg (Value.int .i64) DT.out,by have:=hig.out;unfold Hid;omega,I7,F7,Gz⟩
          have sM: ¬(q:Int)<(C.s.size:Int):=by omega
          have HAD:Hid (BR.GD C.L S q nx (j0,b0)=nx):=by unfold Hid BR.GD;rw[List.getElem?_eq_none (by rw[YX.out];omega)]
          have Gz:Hid (scan C.L S q (Fp.drop (i+1)) (some bg) nx=(E,NX)):=by have:=Nr.out;rwa[HAD.out]at this
          clear Kk
          have S0:Hid ((wx.drewN 1).cell? ⟨C.b+1,0,none⟩=some (.string C.s)/\CS (wx.drewN 1) b15 ⟨kx,tx,X,Y⟩):=⟨I4.out.Iy.c1,TD.out⟩
          have I5:=hid (I4.out.below HJ.out (below_draws wx 1))
          have M5:=hid (Ns.out.below (below_draws wx 1))
          refine wp_region_held_drew (S:=fun w'=>w'.cell? ⟨C.b+1,0,none⟩=some (.string C.s)/\CS w' b15 ⟨kx,tx,X,Y⟩) (by kernel_rfl) S0.out (fun hHeld=> ?_)
          refine Take.k 0 ⟨some 81,.move (.tmp 10),_,_,_,none⟩ ?_
          refine Take.k 1 ⟨some 82,.load 9 (.tmp 2),_,_,_,none⟩ ?_
          refine Take.k 2 ⟨some 83,.call ⟨.builtin .len, #[.tmp 82], #[9]⟩,_,_,_,none⟩ ?_
          refine Take.k 3 ⟨some 84,.binOp .lss 3 (.tmp 81) (.tmp 83) 3,_,_,_,none⟩ ?_
          refine Take.k 4 ⟨some 85,.move (.tmp 84),_,_,_,none⟩ ?_
          refine Take.u 5 ⟨some 86,.load 106 (.tmp 15),_,_,_,some (4,true)⟩ ?_
          refine Take.u 6 ⟨some 87,.load 9 (.tmp 2),_,_,_,some (4,true)⟩ ?_
          refine Take.u 7 ⟨some 88,.move (.tmp 10),_,_,_,some (4,true)⟩ ?_
          refine Take.u 8 ⟨some 89,.index 9 (.tmp 87) (.tmp 88),_,_,_,some (4,true)⟩ ?_
          refine Take.u 9 ⟨some 90,.call ⟨.value (.func 115), #[.tmp 86,.tmp 89], #[106,5]⟩,_,_,_,some (4,true)⟩ ?_
          refine Take.k 10 ⟨some 91,.pick (.tmp 85) (.tmp 90) (.const (.bool false)),_,_,_,none⟩ ?_
          refine Take.k 11 ⟨some 80,.assign (.tmp 91),_,_,_,none⟩ ?_
          refine wpAnyH_done (by kernel_rfl) ?_ _
          go_wp2_with fail
          go_roundg Lf
          case measure=>omega
          case rel=>exact⟨i+1,_,bg,true,v4,nx,rfl,rfl,by first|rfl|exact congrArg (Value.int .i64) DT.out,by have:=hig.out;unfold Hid;omega,I5,F3,Gz⟩
       have tk: ¬(i:Int)<(k:Int):=by omega
       have hdn:Fp.drop i= []:=by rw[List.drop_eq_nil_iff,HK.out];omega
       have hsc:=oU.out
       rw[hdn,scan]at hsc
       have hE:(if en then some bg else none)=E:=congrArg Prod.fst hsc
       have hX:nx=NX:=congrArg Prod.snd hsc
       subst hX
       have HE:=hid hE.symm
       clear hdn hsc hE hik
       go_wp2_with fail
       exact hrest _ _ _ _ _ _ _ _ _ _ _ _ _ _ _ _ _ _ _ _ _ _ _ _ _ _ _ _ _ _ _ _ _ _ _ _ _ _ _ _ _ _ _ _ _ _ _ _ _ _ _ _ _ _ _ _ _ _ _ _ _ _ _ _ _ _ _ _ _ _ _ _ _ _ _ _ _ _ _ _ _ _ _ _ _ _ _ _ _ _ _ I3 HE
     have tq: ¬(q:Int)<=(u:Int):=by omega
     have hne:now≠ []:=by rcases hgo with h|h;exact absurd h nz;exact h
     have hpos:0<now.length:=List.length_pos_iff.2 hne
     have tk:(0:Int)<(now.length:Int):=by omega
     have a_:Hid (BR.entered C.L S q u now=now):=by unfold Hid BR.entered;rw[if_neg nz]
     have HQU:=hid nz
     clear hgo nz sK hne hpos
     go_wp2_with fail
     go_step3
     have I2:=I1
     have F2:=F1
     clear I1 F1 a0 tk
     obtain⟨k,hk⟩: ∃k,now.length=k:=⟨_,rfl⟩
     have HK:=hid hk
     have a0:=I2.out.FW.c0
     rw[hk]at a0 I2 hk1
     have HKC:=hid (show k<=c1/\c1<=9223372036854775807 from⟨hk1,hk2⟩)
     clear hk hk1 hk2
     go_wp2_with fail
     go_step3
     go_wp2_with fail
     clear a0
     rw[show decide (q<=u)=false from decide_eq_false HQU.out]
     rename_i K hK
     have hrest: ∀(T2:Nat->Prop) (bg:Nat) (en:Bool) (wz:World) (v4:Value) (v14 v15 v30 v31 v32 v33 v34 v35 v36 v37 v38 v39 v40 v41 v42 v43 v44 v45 v46 v47 v48 v49 v50 v51 v52 v53 v54 v55 v56 v57 v58 v59 v60 v61 v62 v63 v64 v65 v66 v67 v68 v69 v70 v71 v72 v73 v74 v75 v76 v77 v78 v79 v80 v81 v82 v83 v84 v85 v86 v87 uw v89 uy v91 uz v93 u7 u_ vB vC vD vE jU jV jW jX jY v105 jZ v107 ja v109 jb jc jd je:Value),Hid (It C J T0 W T2 pre wz b6 r1 g1 (.slice A1 k c1) now r2 g2 v4 NX)->Hid (E=if en then some bg else none)->K {tmps:= #[.func (.yield l) #[] #[],.pointer (some ⟨C.b,0,none⟩),.pointer (some ⟨C.b+1,0,none⟩),.pointer (some ⟨C.b+3,0,none⟩),.pointer (some ⟨C.b+2,0,none⟩),undef,.pointer (some ⟨b6,0,none⟩),.pointer (some ⟨r1,0,none⟩),.pointer (some ⟨r2,0,none⟩),.int .i64 u,.int .i64 q,.int .i64 bg,.bool en,undef,v14,v15,.slice A n cl,.bool true,.bool false,.slice A n cl,.string C.s,.agg #[.slice A n cl,.string C.s],.slice A n cl,.int .i64 n,.pointer (some ⟨wT,0,none⟩),.slice A n cl,.int .i64 n,.pointer (some ⟨wU,0,none⟩),.int .i64 C.last,.int .i64 C.first,v30,v31,v32,v33,v34,v35,v36,v37,v38,v39,v40,v41,v42,v43,v44,v45,v46,v47,v48,v49,v50,v51,v52,v53,v54,v55,v56,v57,v58,v59,v60,v61,v62,v63,v64,v65,v66,v67,v68,v69,v70,v71,v72,v73,v74,v75,v76,v77,v78,v79,v80,v81,v82,v83,v84,v85,v86,v87,uw,v89,uy,v91,uz,v93,u7,u_,vB,vC,vD,vE,jU,jV,jW,jX,jY,v105,jZ,v107,ja,v109,jb,jc,jd,je],defers:= []} wz:=by
      intro T2 bg en wz v4 v14 v15 v30 v31 v32 v33 v34 v35 v36 v37 v38 v39 v40 v41 v42 v43 v44 v45 v46 v47 v48 v49 v50 v51 v52 v53 v54 v55 v56 v57 v58 v59 v60 v61 v62 v63 v64 v65 v66 v67 v68 v69 v70 v71 v72 v73 v74 v75 v76 v77 v78 v79 v80 v81 v82 v83 v84 v85 v86 v87 uw v89 uy v91 uz v93 u7 u_ vB vC vD vE jU jV jW jX jY v105 jZ v107 ja v109 jb jc jd je I3 HE
      clear I2
      cases en with
      |false=>
       refine hK _ _ ?_
       clear hK
       have he:E=none:=HE.out
       subst he
       go_wp2_with fail
       refine(KV I3.out.FW (by rw[GX.out];exact F2.out) (by rw[GX.out];exact HN.out)).mono ?_
       rintro e wd ⟨rfl,v6,rr,rg⟩
       have I4:=hid (I3.out.Xc HJ.out rr rg).swap
       clear rr rg I3 HE
       go_wp2_with fail
       simp only[Exit.noGoto,Exit.inBlock,Exit.then]
       go_wp2_with fail
       go_roundg gk
       case measure=>omega
       case rel=>exact⟨_,pre,q+1,u,r2,g2,r1,g1,v4,v6,NX,rfl,rfl,rfl,by first|rfl|exact congrArg (Value.int .i64) hwq.out,I4,oP,YY,by have:=HQ.out;exact⟨by omega,by omega,oO.out⟩⟩
      |true=>
       refine hK _ _ ?_
       clear hK
       have he:E=some bg:=HE.out
       subst he
       have ZV:Hid ((pre++ [(bg,q)])++run C.L S gk (q+1) q NX=xs):=by unfold Hid;rw[<-YY.out];simp[after]
       obtain⟨fn1,tm1,as1,bd1,hy1,vF⟩:=HY.out T2 pre (bg,q) wz I3.out.j I3.out.lies ⟨_,ZV.out⟩
       unfold jO at hy1
       simp only at hy1
       refine(wpIn_wide (n:=9)).1 ?_
       gi_wp2
       refine(FY _ vF).mono ?_
       rintro e W3 ⟨ht3,(⟨rfl,hJ3⟩|⟨rfl,hJx3⟩)⟩
       ·have I4:=hid (I3.out.round hJ3 ht3)
        clear hy1 vF ht3 hJ3 HE I3
        gi_wp2
        refine⟨trivial,?_⟩
        refine(callsIn_wide.2 (KV I4.out.FW (by rw[GX.out];exact F2.out) (by rw[GX.out];exact HN.out))).mono ?_
        rintro e wd ⟨rfl,v6,rr,rg⟩
        have I5:=hid (I4.out.Xc HJ.out rr rg).swap
        clear rr rg I4
        gi_wp2
        simp only[Exit.noGoto,Exit.inBlock,Exit.then]
        go_wp2_with fail
        go_roundg gk
        case measure=>omega
        case rel=>exact⟨_,pre++ [(bg,q)],q+1,q,r2,g2,r1,g1,v4,v6,NX,rfl,rfl,rfl,by first|rfl|exact congrArg (Value.int .i64) hwq.out,I5,oP,ZV,by have:=HQ.out;exact⟨by omega,by have:=HU.out;have:=uM.out;omega,oO.out⟩⟩
       gi_wp2
       simp only[Exit.noGoto,Exit.inBlock,Exit.then]
       refine bodyPost_ret (results_none rfl _ _ _) rfl ?_
       exact⟨⟨_,rfl⟩,I3.out.all.trans (ht3.wider fun k h=>h.1),T2,I3.out.lies.more ht3.size,I3.out.sub,Or.inr ⟨_,⟨_,ZV.out⟩,hJx3⟩⟩
     go_loopg [11,12,57] k (fun Lf s11 s12 yC wr=> ∃(i:Nat) (T2:Nat->Prop) (bg:Nat) (en:Bool) (v4:Value) (nx:List BR.Mark),s11= .int .i64 bg/\s12= .bool en/\yC= .int .i64 i/\Hid (i+Lf=k)/\Hid (It C J T0 W T2 pre wr b6 r1 g1 (.slice A1 k c1) now r2 g2 v4 nx)/\Hid (Fit n nx)/\Hid (scan C.L S q (now.drop i) (if en then some bg else none) nx=(E,NX)))
     case atStart=>exact⟨0,T,0,false,v2,[],rfl,rfl,rfl,by unfold Hid;omega,I2,⟨by simp[steps],by simp⟩,by unfold Hid;rw[<-uu.out,a_.out];rfl⟩
     case round=>
      clear I2
      obtain⟨i,T2,bg,en,v4,nx,rfl,rfl,rfl,hig,I3,F3,oU⟩:=hrel
      by_cases hik:i<k
      ·cases gk with
       |zero=>exact absurd hig.out (by omega)
       |succ Lf=>
        have tk:(i:Int)<(k:Int):=by omega
        have hil:i<now.length:=by rw[HK.out];exact hik
        obtain⟨⟨j0,b0⟩,hx0⟩: ∃x,now[i]=x:=⟨_,rfl⟩
        have hj0:j0<n:=by have:=F2.out.2 now[i] (List.getElem_mem hil);rw[hx0]at this;exact this
        obtain⟨gm,c',e,-,-,-,-⟩:=BL I3.out.FW.own (by omega)
        have eA:A1=some ⟨gm,0,none⟩:=by injection e
        subst eA
        clear e
        have hmc:=LZ I3.out.FW.own HK.out hil
        rw[hx0]at hmc
        have az:=hid hmc
        have HD:Hid (now.drop i=(j0,b0)::now.drop (i+1)):=by unfold Hid;rw[List.drop_eq_getElem_cons hil,hx0]
        have hlc:=I3.out.prog
        rw[Le.out]at hlc
        obtain⟨gl,ol,hjl,rfl,-,hcl⟩:=hlc.Gq BJ (by decide) (k:=j0) hj0
        have hii:ins C.L j0=C.L[j0]:=by unfold ins;rw[List.getD_eq_getElem?_getD,List.getElem?_eq_getElem hjl];rfl
        rw[<-hii]at hcl
        obtain⟨⟨kx,tx,X,Y⟩,hx1⟩: ∃x,ins C.L j0=x:=⟨_,rfl⟩
        have HX:=hid hx1
        have hok:=BR.Qt Yb.out hjl
        rw[hx1,GX.out]at hok
        have HT1:Hid (kx=1->tx.size=1):=fun hk=>by
         subst hk
         unfold Bv.ae at hok
         rw[Bool.and_eq_true]at hok
         have:=hok.1
         simpa [Bv.Je]using this
        have dK:Hid (kx≠7->0<=X/\X<n/\1<=kx/\kx<=8/\(kx=6->0<=Y/\Y<n)):=fun hk=>BR.XM hok hk
        rw[hx1]at hcl
        have jf:=hid hcl
        have IP:=I3.out.Iy.c0
        rw[Le.out]at IP
        have hjn:(j0:Int)<(n:Int):=by omega
        have DT:Hid (wrap64 ((i:Int)+1)=((i+1:Nat):Int)):=by unfold Hid wrap64;have:=F2.out.len;rw[HK.out]at this;have:=HN.out;omega
        obtain⟨q1,hq1⟩: ∃q1,q+1=q1:=⟨_,rfl⟩
        have dV:=hid hq1
        clear hil hmc hx0 hii hx1 hok hcl hlc hjl hq1 hik hj0
        cases en with
        |false=>
         have jg:Hid ((if(ins C.L j0).kind=7 then scan C.L S q (now.drop (i+1)) (some b0) nx else scan C.L S q (now.drop (i+1)) none (BR.GD C.L S q nx (j0,b0)))=(E,NX)):=by have:=oU.out;rw[HD.out,scan]at this;unfold Hid;simpa [BR.past]using this
         by_cases k7:kx=7
         ·subst k7
          have Nr:Hid (scan C.L S q (now.drop (i+1)) (some b0) nx=(E,NX)):=by have:=jg.out;rw[HX.out]at this;unfold Hid;simpa using this
          go_wp2_with (first
           |(refine Dv (r:=(j0,b0)) rfl (.tmp 59) rfl rfl az.out ?_)
           |(refine DX rfl rfl ?_;intro w3 b14 e3 p3 l3 z3)
           |(refine DY (r:=(j0,b0)) rfl (.tmp 14) (.tmp 60) rfl rfl rfl p3 ?_;intro w4 p4 l4 z4;have L4:=hid (AY l3 l4 e3);have P4:=hid p4;have m0:=p4.c0;have IP:=(L4.out.cell (World.block_lt_of_cell? wr _ IP)).trans IP;clear e3 p3 l3 z3 p4 l4 z4;simp only at m0)
           |(refine DI rfl (.tmp 64) rfl rfl (r:=⟨7,tx,X,Y⟩) (Dp jf.out L4.out) ?_)
           |(refine Cw rfl rfl ?_;intro w5 b15 e5 p5 l5 z5)
           |(refine Cx (r:=⟨7,tx,X,Y⟩) rfl (.tmp 15) (.tmp 65) rfl rfl rfl p5 ?_;intro wx p6 l6 z6;have L6:=hid (AY l5 l6 e5);have TD:=hid p6;have Ns:=hid (P4.out.below L6.out);have I4:=hid (I3.out.below HJ.out (on L4.out L6.out));have c0:=p6.c0;have d1:=Ns.out.c1;clear e5 p5 l5 z5 p6 l6 z6 m0 IP;simp only at c0 d1))
          go_roundg Lf
          case measure=>omega
          case rel=>exact⟨i+1,_,b0,true,v4,nx,rfl,rfl,by first|rfl|exact congrArg (Value.int .i64) DT.out,by have:=hig.out;unfold Hid;omega,I4,F3,Nr⟩
         have t7:(kx==7)=false:=by simpa using k7
         have Nr:Hid (scan C.L S q (now.drop (i+1)) (none) (BR.GD C.L S q nx (j0,b0))=(E,NX)):=by have:=jg.out;rw[HX.out]at this;rwa[if_neg k7]at this
         go_wp2_with (first
          |(refine Dv (r:=(j0,b0)) rfl (.tmp 59) rfl rfl az.out ?_)
          |(refine DX rfl rfl ?_;intro w3 b14 e3 p3 l3 z3)
          |(refine DY (r:=(j0,b0)) rfl (.tmp 14) (.tmp 60) rfl rfl rfl p3 ?_;intro w4 p4 l4 z4;have L4:=hid (AY l3 l4 e3);have P4:=hid p4;have m0:=p4.c0;have IP:=(L4.out.cell (World.block_lt_of_cell? wr _ IP)).trans IP;clear e3 p3 l3 z3 p4 l4 z4;simp only at m0)
          |(refine DI rfl (.tmp 64) rfl rfl (r:=⟨kx,tx,X,Y⟩) (Dp jf.out L4.out) ?_)
          |(refine Cw rfl rfl ?_;intro w5 b15 e5 p5 l5 z5)
          |(refine Cx (r:=⟨kx,tx,X,Y⟩) rfl (.tmp 15) (.tmp 65) rfl rfl rfl p5 ?_;intro wx p6 l6 z6;have L6:=hid (AY l5 l6 e5);have TD:=hid p6;have Ns:=hid (P4.out.below L6.out);have I4:=hid (I3.out.below HJ.out (on L4.out L6.out));have c0:=p6.c0;have d1:=Ns.out.c1;clear e5 p5 l5 z5 p6 l6 z6 m0 IP;simp only at c0 d1))
         by_cases Kk:q<C.s.size
         ·have sM:(q:Int)<(C.s.size:Int):=by omega
          have iZ:=hid Kk
          have jh:S[q]? =some (C.s[q]'iZ.out):=by rw[<-qV.out];exact List.getElem?_eq_getElem (by rw[<-Lib.size_eq];exact Kk)
          have ji:=hid jh
          clear jh Kk
          obtain⟨R,hR⟩: ∃R,BR.takes ⟨kx,tx,X,Y⟩ (C.s[q]'iZ.out)=R:=⟨_,rfl⟩
          have ZW:=hid hR
          clear hR
          have S0:Hid ((wx.drewN 1).cell? ⟨C.b+1,0,none⟩=some (.string C.s)/\CS (wx.drewN 1) b15 ⟨kx,tx,X,Y⟩):=⟨I4.out.Iy.c1,TD.out⟩
          have I5:=hid (I4.out.below HJ.out (below_draws wx 1))
          have M5:=hid (Ns.out.below (below_draws wx 1))
          refine wp_region_held_drew (S:=fun w'=>w'.cell? ⟨C.b+1,0,none⟩=some (.string C.s)/\CS w' b15 ⟨kx,tx,X,Y⟩) (by kernel_rfl) S0.out (fun hHeld=> ?_)
          refine Take.k 0 ⟨some 81,.move (.tmp 10),_,_,_,none⟩ ?_
          refine Take.k 1 ⟨some 82,.load 9 (.tmp 2),_,_,_,none⟩ ?_
          refine Take.k 2 ⟨some 83,.call ⟨.builtin .len, #[.tmp 82], #[9]⟩,_,_,_,none⟩ ?_
          refine Take.k 3 ⟨some 84,.binOp .lss 3 (.tmp 81) (.tmp 83) 3,_,_,_,none⟩ ?_
          refine Take.k 4 ⟨some 85,.move (.tmp 84),_,_,_,none⟩ ?_
          refine Take.k 5 ⟨some 86,.load 106 (.tmp 15),_,_,_,some (4,true)⟩ ?_ (hy:=Or.inl ⟨by rfl,by(intro w hSw;(try dsimp only at hSw);refine DR (.tmp 15) ?_ ?_ (JR hSw.2)<;>rfl)⟩)
          refine Take.k 6 ⟨some 87,.load 9 (.tmp 2),_,_,_,some (4,true)⟩ ?_
          refine Take.k 7 ⟨some 88,.move (.tmp 10),_,_,_,some (4,true)⟩ ?_
          refine Take.k 8 ⟨some 89,.index 9 (.tmp 87) (.tmp 88),_,_,_,some (4,true)⟩ ?_
          refine wpAnyH_ready (rs:= [9]) (by kernel_rfl) (by simp) ?_
          refine AllReadyH.cons (o:=⟨some 90,.call ⟨.value (.func 115), #[.tmp 86,.tmp 89], #[106,5]⟩,_,_,_,some (4,true)⟩) rfl (fun K hK=> ?_) AllReadyH.nil
          go_simp
          (go_at_call 115;refine(KQ (x:=⟨kx,tx,X,Y⟩) HT1.out (C.s[q]'iZ.out) _).mono ?_;rintro e wt ⟨rfl,lt⟩;have LT:=hid lt;clear lt)
          go_wp2_with fail
          refine hK.out _ _ ?_ (fun hHeld=> ?_)
          ·exact⟨(LT.out.cell (World.block_lt_of_cell? _ _ S0.out.1)).trans S0.out.1,S0.out.2.below LT.out⟩
          clear hK K
          try simp only[Act.put,Take.a,Take.b,Take.c]
          refine Take.k 10 ⟨some 91,.pick (.tmp 85) (.tmp 90) (.const (.bool false)),_,_,_,none⟩ ?_
          refine Take.k 11 ⟨some 80,.assign (.tmp 91),_,_,_,none⟩ ?_
          refine wpAnyH_done (by kernel_rfl) ?_ _
          rw[ZW.out]
          have I6:=hid (I5.out.below HJ.out LT.out)
          cases R with
          |false=>
           have HAD:Hid (BR.GD C.L S q nx (j0,b0)=nx):=by unfold Hid BR.GD;rw[ji.out];simp only;rw[HX.out,ZW.out];rfl
           have Gz:Hid (scan C.L S q (now.drop (i+1)) (none) nx=(E,NX)):=by have:=Nr.out;rwa[HAD.out]at this
           go_wp2_with fail
           go_roundg Lf
           case measure=>omega
           case rel=>exact⟨i+1,_,bg,false,v4,nx,rfl,rfl,by first|rfl|exact congrArg (Value.int .i64) DT.out,by have:=hig.out;unfold Hid;omega,I6,F3,Gz⟩
          |true=>
           have VR:=dK.out k7
           obtain⟨jx,rfl⟩: ∃jx:Nat,X=(jx:Int):=⟨X.toNat,by have:=VR.1;omega⟩
           have RQ:Hid (jx<n):=by unfold Hid;have:=VR.2.1;omega
           have HAD:Hid (BR.GD C.L S q nx (j0,b0)=Eo C.L C.s.size q1 nx (jx,b0)):=by unfold Hid BR.GD;rw[ji.out];simp only;rw[HX.out,ZW.out,YX.out,dV.out];rfl
           have Gz:Hid (scan C.L S q (now.drop (i+1)) (none) (Eo C.L C.s.size q1 nx (jx,b0))=(E,NX)):=by have:=Nr.out;rwa[HAD.out]at this
           have m1:=(M5.out.below LT.out).c1
           have x2:=(TD.out.below (on (below_draws wx 1) LT.out)).c2
           simp only at m1 x2
           have RB:Hid (GJ wt b6 (.slice (some ⟨gl,ol,none⟩) n cl) C.s):=by have:=I6.out.run;rw[Le.out]at this;exact this
           have oQ:=Gy (jx:Int) (b0:Int)
           have hw1:wrap64 ((q:Int)+1)=(q1:Int):=by have:=hwq.out;rw[dV.out]at this;exact this
           have GO:=hid (J4 I6.out.prog Yb.out (by rw[GX.out];exact HN.out) I6.out.Ld (by rw[GX.out];exact F3.out) C.s (jx,b0) (by rw[GX.out];exact RQ.out) q1 (by have:=uM.out;have:=HU.out;have:=dV.out;omega))
           rw[Le.out]at GO
           clear VR
           go_wp2_with (first|(refine J6 (lv:= .slice (some ⟨gl,ol,none⟩) n cl) (s:=C.s) rfl (.tmp 6) rfl rfl RB.out ?_))
           refine GO.out.mono ?_
           rintro e wg ⟨rfl,v7,rr,rg⟩
           have I7:=hid (I6.out.Xb HJ.out rr rg)
           have F7:Hid (Fit n (Eo C.L C.s.size q1 nx (jx,b0))):=by have h1:=Iz (BR.Ga Yb.out) (n:=C.s.size) (q:=q1) (M:=nx) (m:=(jx,b0)) (by rw[GX.out];exact F3.out) (by rw[GX.out];exact RQ.out);rw[GX.out]at h1;exact h1
           clear rr rg m1 x2 oQ hw1 GO
           go_wp2_with fail
           go_roundg Lf
           case measure=>omega
           case rel=>exact⟨i+1,_,bg,false,v7,(Eo C.L C.s.size q1 nx (jx,b0)),rfl,rfl,by first|rfl|exact congrArg (Value.int .i64) DT.out,by have:=hig.out;unfold Hid;omega,I7,F7,Gz⟩
         have sM: ¬(q:Int)<(C.s.size:Int):=by omega
         have HAD:Hid (BR.GD C.L S q nx (j0,b0)=nx):=by unfold Hid BR.GD;rw[List.getElem?_eq_none (by rw[YX.out];omega)]
         have Gz:Hid (scan C.L S q (now.drop (i+1)) (none) nx=(E,NX)):=by have:=Nr.out;rwa[HAD.out]at this
         clear Kk
         have S0:Hid ((wx.drewN 1).cell? ⟨C.b+1,0,none⟩=some (.string C.s)/\CS (wx.drewN 1) b15 ⟨kx,tx,X,Y⟩):=⟨I4.out.Iy.c1,TD.out⟩
         have I5:=hid (I4.out.below HJ.out (below_draws wx 1))
         have M5:=hid (Ns.out.below (below_draws wx 1))
         refine wp_region_held_drew (S:=fun w'=>w'.cell? ⟨C.b+1,0,none⟩=some (.string C.s)/\CS w' b15 ⟨kx,tx,X,Y⟩) (by kernel_rfl) S0.out (fun hHeld=> ?_)
         refine Take.k 0 ⟨some 81,.move (.tmp 10),_,_,_,none⟩ ?_
         refine Take.k 1 ⟨some 82,.load 9 (.tmp 2),_,_,_,none⟩ ?_
         refine Take.k 2 ⟨some 83,.call ⟨.builtin .len, #[.tmp 82], #[9]⟩,_,_,_,none⟩ ?_
         refine Take.k 3 ⟨some 84,.binOp .lss 3 (.tmp 81) (.tmp 83) 3,_,_,_,none⟩ ?_
         refine Take.k 4 ⟨some 85,.move (.tmp 84),_,_,_,none⟩ ?_
         refine Take.u 5 ⟨some 86,.load 106 (.tmp 15),_,_,_,some (4,true)⟩ ?_
         refine Take.u 6 ⟨some 87,.load 9 (.tmp 2),_,_,_,some (4,true)⟩ ?_
         refine Take.u 7 ⟨some 88,.move (.tmp 10),_,_,_,some (4,true)⟩ ?_
         refine Take.u 8 ⟨some 89,.index 9 (.tmp 87) (.tmp 88),_,_,_,some (4,true)⟩ ?_
         refine Take.u 9 ⟨some 90,.call ⟨.value (.func 115), #[.tmp 86,.tmp 89], #[106,5]⟩,_,_,_,some (4,true)⟩ ?_
         refine Take.k 10 ⟨some 91,.pick (.tmp 85) (.tmp 90) (.const (.bool false)),_,_,_,none⟩ ?_
         refine Take.k 11 ⟨some 80,.assign (.tmp 91),_,_,_,none⟩ ?_
         refine wpAnyH_done (by kernel_rfl) ?_ _
         go_wp2_with fail
         go_roundg Lf
         case measure=>omega
         case rel=>exact⟨i+1,_,bg,false,v4,nx,rfl,rfl,by first|rfl|exact congrArg (Value.int .i64) DT.out,by have:=hig.out;unfold Hid;omega,I5,F3,Gz⟩
        |true=>
         by_cases hpast:bg<b0
         ·have tp:(bg:Int)<(b0:Int):=by omega
          have hsc:=oU.out
          rw[HD.out,scan]at hsc
          simp only[BR.past,hpast,decide_true,if_true]at hsc
          have hE:some bg=E:=congrArg Prod.fst hsc
          have hX:nx=NX:=congrArg Prod.snd hsc
          subst hX
          have HE:Hid (E=if true=true then some bg else none):=hE.symm
          clear hsc hE hpast
          go_wp2_with (first
           |(refine Dv (r:=(j0,b0)) rfl (.tmp 59) rfl rfl az.out ?_)
           |(refine DX rfl rfl ?_;intro w3 b14 e3 p3 l3 z3)
           |(refine DY (r:=(j0,b0)) rfl (.tmp 14) (.tmp 60) rfl rfl rfl p3 ?_;intro w4 p4 l4 z4;have L4:=hid (AY l3 l4 e3);have P4:=hid p4;have m0:=p4.c0;have IP:=(L4.out.cell (World.block_lt_of_cell? wr _ IP)).trans IP;clear e3 p3 l3 z3 p4 l4 z4;simp only at m0)
           |(refine DI rfl (.tmp 64) rfl rfl (r:=⟨kx,tx,X,Y⟩) (Dp jf.out L4.out) ?_)
           |(refine Cw rfl rfl ?_;intro w5 b15 e5 p5 l5 z5)
           |(refine Cx (r:=⟨kx,tx,X,Y⟩) rfl (.tmp 15) (.tmp 65) rfl rfl rfl p5 ?_;intro wx p6 l6 z6;have L6:=hid (AY l5 l6 e5);have TD:=hid p6;have Ns:=hid (P4.out.below L6.out);have I4:=hid (I3.out.below HJ.out (on L4.out L6.out));have c0:=p6.c0;have d1:=Ns.out.c1;clear e5 p5 l5 z5 p6 l6 z6 m0 IP;simp only at c0 d1))
          exact hrest _ _ _ _ _ _ _ _ _ _ _ _ _ _ _ _ _ _ _ _ _ _ _ _ _ _ _ _ _ _ _ _ _ _ _ _ _ _ _ _ _ _ _ _ _ _ _ _ _ _ _ _ _ _ _ _ _ _ _ _ _ _ _ _ _ _ _ _ _ _ _ _ _ _ _ _ _ _ _ _ _ _ _ _ _ _ _ _ _ _ _ I4 HE
         have tp: ¬(bg:Int)<(b0:Int):=by omega
         have jg:Hid ((if(ins C.L j0).kind=7 then scan C.L S q (now.drop (i+1)) (some b0) nx else scan C.L S q (now.drop (i+1)) (some bg) (BR.GD C.L S q nx (j0,b0)))=(E,NX)):=by have:=oU.out;rw[HD.out,scan]at this;unfold Hid;simpa [BR.past,hpast]using this
         clear hpast
         by_cases k7:kx=7
         ·subst k7
          have Nr:Hid (scan C.L S q (now.drop (i+1)) (some b0) nx=(E,NX)):=by have:=jg.out;rw[HX.out]at this;unfold Hid;simpa using this
          go_wp2_with (first
           |(refine Dv (r:=(j0,b0)) rfl (.tmp 59) rfl rfl az.out ?_)
           |(refine DX rfl rfl ?_;intro w3 b14 e3 p3 l3 z3)
           |(refine DY (r:=(j0,b0)) rfl (.tmp 14) (.tmp 60) rfl rfl rfl p3 ?_;intro w4 p4 l4 z4;have L4:=hid (AY l3 l4 e3);have P4:=hid p4;have m0:=p4.c0;have IP:=(L4.out.cell (World.block_lt_of_cell? wr _ IP)).trans IP;clear e3 p3 l3 z3 p4 l4 z4;simp only at m0)
           |(refine DI rfl (.tmp 64) rfl rfl (r:=⟨7,tx,X,Y⟩) (Dp jf.out L4.out) ?_)
           |(refine Cw rfl rfl ?_;intro w5 b15 e5 p5 l5 z5)
           |(refine Cx (r:=⟨7,tx,X,Y⟩) rfl (.tmp 15) (.tmp 65) rfl rfl rfl p5 ?_;intro wx p6 l6 z6;have L6:=hid (AY l5 l6 e5);have TD:=hid p6;have Ns:=hid (P4.out.below L6.out);have I4:=hid (I3.out.below HJ.out (on L4.out L6.out));have c0:=p6.c0;have d1:=Ns.out.c1;clear e5 p5 l5 z5 p6 l6 z6 m0 IP;simp only at c0 d1))
          go_roundg Lf
          case measure=>omega
          case rel=>exact⟨i+1,_,b0,true,v4,nx,rfl,rfl,by first|rfl|exact congrArg (Value.int .i64) DT.out,by have:=hig.out;unfold Hid;omega,I4,F3,Nr⟩
         have t7:(kx==7)=false:=by simpa using k7
         have Nr:Hid (scan C.L S q (now.drop (i+1)) (some bg) (BR.GD C.L S q nx (j0,b0))=(E,NX)):=by have:=jg.out;rw[HX.out]at this;rwa[if_neg k7]at this
         go_wp2_with (first
          |(refine Dv (r:=(j0,b0)) rfl (.tmp 59) rfl rfl az.out ?_)
          |(refine DX rfl rfl ?_;intro w3 b14 e3 p3 l3 z3)
          |(refine DY (r:=(j0,b0)) rfl (.tmp 14) (.tmp 60) rfl rfl rfl p3 ?_;intro w4 p4 l4 z4;have L4:=hid (AY l3 l4 e3);have P4:=hid p4;have m0:=p4.c0;have IP:=(L4.out.cell (World.block_lt_of_cell? wr _ IP)).trans IP;clear e3 p3 l3 z3 p4 l4 z4;simp only at m0)
          |(refine DI rfl (.tmp 64) rfl rfl (r:=⟨kx,tx,X,Y⟩) (Dp jf.out L4.out) ?_)
          |(refine Cw rfl rfl ?_;intro w5 b15 e5 p5 l5 z5)
          |(refine Cx (r:=⟨kx,tx,X,Y⟩) rfl (.tmp 15) (.tmp 65) rfl rfl rfl p5 ?_;intro wx p6 l6 z6;have L6:=hid (AY l5 l6 e5);have TD:=hid p6;have Ns:=hid (P4.out.below L6.out);have I4:=hid (I3.out.below HJ.out (on L4.out L6.out));have c0:=p6.c0;have d1:=Ns.out.c1;clear e5 p5 l5 z5 p6 l6 z6 m0 IP;simp only at c0 d1))
         by_cases Kk:q<C.s.size
         ·have sM:(q:Int)<(C.s.size:Int):=by omega
          have iZ:=hid Kk
          have jh:S[q]? =some (C.s[q]'iZ.out):=by rw[<-qV.out];exact List.getElem?_eq_getElem (by rw[<-Lib.size_eq];exact Kk)
          have ji:=hid jh
          clear jh Kk
          obtain⟨R,hR⟩: ∃R,BR.takes ⟨kx,tx,X,Y⟩ (C.s[q]'iZ.out)=R:=⟨_,rfl⟩
          have ZW:=hid hR
          clear hR
          have S0:Hid ((wx.drewN 1).cell? ⟨C.b+1,0,none⟩=some (.string C.s)/\CS (wx.drewN 1) b15 ⟨kx,tx,X,Y⟩):=⟨I4.out.Iy.c1,TD.out⟩
          have I5:=hid (I4.out.below HJ.out (below_draws wx 1))
          have M5:=hid (Ns.out.below (below_draws wx 1))
          refine wp_region_held_drew (S:=fun w'=>w'.cell? ⟨C.b+1,0,none⟩=some (.string C.s)/\CS w' b15 ⟨kx,tx,X,Y⟩) (by kernel_rfl) S0.out (fun hHeld=> ?_)
          refine Take.k 0 ⟨some 81,.move (.tmp 10),_,_,_,none⟩ ?_
          refine Take.k 1 ⟨some 82,.load 9 (.tmp 2),_,_,_,none⟩ ?_
          refine Take.k 2 ⟨some 83,.call ⟨.builtin .len, #[.tmp 82], #[9]⟩,_,_,_,none⟩ ?_
          refine Take.k 3 ⟨some 84,.binOp .lss 3 (.tmp 81) (.tmp 83) 3,_,_,_,none⟩ ?_
          refine Take.k 4 ⟨some 85,.move (.tmp 84),_,_,_,none⟩ ?_
          refine Take.k 5 ⟨some 86,.load 106 (.tmp 15),_,_,_,some (4,true)⟩ ?_ (hy:=Or.inl ⟨by rfl,by(intro w hSw;(try dsimp only at hSw);refine DR (.tmp 15) ?_ ?_ (JR hSw.2)<;>rfl)⟩)
          refine Take.k 6 ⟨some 87,.load 9 (.tmp 2),_,_,_,some (4,true)⟩ ?_
          refine Take.k 7 ⟨some 88,.move (.tmp 10),_,_,_,some (4,true)⟩ ?_
          refine Take.k 8 ⟨some 89,.index 9 (.tmp 87) (.tmp 88),_,_,_,some (4,true)⟩ ?_
          refine wpAnyH_ready (rs:= [9]) (by kernel_rfl) (by simp) ?_
          refine AllReadyH.cons (o:=⟨some 90,.call ⟨.value (.func 115), #[.tmp 86,.tmp 89], #[106,5]⟩,_,_,_,some (4,true)⟩) rfl (fun K hK=> ?_) AllReadyH.nil
          go_simp
          (go_at_call 115;refine(KQ (x:=⟨kx,tx,X,Y⟩) HT1.out (C.s[q]'iZ.out) _).mono ?_;rintro e wt ⟨rfl,lt⟩;have LT:=hid lt;clear lt)
          go_wp2_with fail
          refine hK.out _ _ ?_ (fun hHeld=> ?_)
          ·exact⟨(LT.out.cell (World.block_lt_of_cell? _ _ S0.out.1)).trans S0.out.1,S0.out.2.below LT.out⟩
          clear hK K
          try simp only[Act.put,Take.a,Take.b,Take.c]
          refine Take.k 10 ⟨some 91,.pick (.tmp 85) (.tmp 90) (.const (.bool false)),_,_,_,none⟩ ?_
          refine Take.k 11 ⟨some 80,.assign (.tmp 91),_,_,_,none⟩ ?_
          refine wpAnyH_done (by kernel_rfl) ?_ _
          rw[ZW.out]
          have I6:=hid (I5.out.below HJ.out LT.out)
          cases R with
          |false=>
           have HAD:Hid (BR.GD C.L S q nx (j0,b0)=nx):=by unfold Hid BR.GD;rw[ji.out];simp only;rw[HX.out,ZW.out];rfl
           have Gz:Hid (scan C.L S q (now.drop (i+1)) (some bg) nx=(E,NX)):=by have:=Nr.out;rwa[HAD.out]at this
           go_wp2_with fail
           go_roundg Lf
           case measure=>omega
           case rel=>exact⟨i+1,_,bg,true,v4,nx,rfl,rfl,by first|rfl|exact congrArg (Value.int .i64) DT.out,by have:=hig.out;unfold Hid;omega,I6,F3,Gz⟩
          |true=>
           have VR:=dK.out k7
           obtain⟨jx,rfl⟩: ∃jx:Nat,X=(jx:Int):=⟨X.toNat,by have:=VR.1;omega⟩
           have RQ:Hid (jx<n):=by unfold Hid;have:=VR.2.1;omega
           have HAD:Hid (BR.GD C.L S q nx (j0,b0)=Eo C.L C.s.size q1 nx (jx,b0)):=by unfold Hid BR.GD;rw[ji.out];simp only;rw[HX.out,ZW.out,YX.out,dV.out];rfl
           have Gz:Hid (scan C.L S q (now.drop (i+1)) (some bg) (Eo C.L C.s.size q1 nx (jx,b0))=(E,NX)):=by have:=Nr.out;rwa[HAD.out]at this
           have m1:=(M5.out.below LT.out).c1
           have x2:=(TD.out.below (on (below_draws wx 1) LT.out)).c2
           simp only at m1 x2
           have RB:Hid (GJ wt b6 (.slice (some ⟨gl,ol,none⟩) n cl) C.s):=by have:=I6.out.run;rw[Le.out]at this;exact this
           have oQ:=Gy (jx:Int) (b0:Int)
           have hw1:wrap64 ((q:Int)+1)=(q1:Int):=by have:=hwq.out;rw[dV.out]at this;exact this
           have GO:=hid (J4 I6.out.prog Yb.out (by rw[GX.out];exact HN.out) I6.out.Ld (by rw[GX.out];exact F3.out) C.s (jx,b0) (by rw[GX.out];exact RQ.out) q1 (by have:=uM.out;have:=HU.out;have:=dV.out;omega))
           rw[Le.out]at GO
           clear VR
           go_wp2_with (first|(refine J6 (lv:= .slice (some ⟨gl,ol,none⟩) n cl) (s:=C.s) rfl (.tmp 6) rfl rfl RB.out ?_))
           refine GO.out.mono ?_
           rintro e wg ⟨rfl,v7,rr,rg⟩
           have I7:=hid (I6.out.Xb HJ.out rr rg)
           have F7:Hid (Fit n (Eo C.L C.s.size q1 nx (jx,b0))):=by have h1:=Iz (BR.Ga Yb.out) (n:=C.s.size) (q:=q1) (M:=nx) (m:=(jx,b0)) (by rw[GX.out];exact F3.out) (by rw[GX.out];exact RQ.out);rw[GX.out]at h1;exact h1
           clear rr rg m1 x2 oQ hw1 GO
           go_wp2_with fail
           go_roundg Lf
           case measure=>omega
           case rel=>exact⟨i+1,_,bg,true,v7,(Eo C.L C.s.size q1 nx (jx,b0)),rfl,rfl,by first|rfl|exact congrArg (Value.int .i64) DT.out,by have:=hig.out;unfold Hid;omega,I7,F7,Gz⟩
         have sM: ¬(q:Int)<(C.s.size:Int):=by omega
         have HAD:Hid (BR.GD C.L S q nx (j0,b0)=nx):=by unfold Hid BR.GD;rw[List.getElem?_eq_none (by rw[YX.out];omega)]
         have Gz:Hid (scan C.L S q (now.drop (i+1)) (some bg) nx=(E,NX)):=by have:=Nr.out;rwa[HAD.out]at this
         clear Kk
         have S0:Hid ((wx.drewN 1).cell? ⟨C.b+1,0,none⟩=some (.string C.s)/\CS (wx.drewN 1) b15 ⟨kx,tx,X,Y⟩):=⟨I4.out.Iy.c1,TD.out⟩
         have I5:=hid (I4.out.below HJ.out (below_draws wx 1))
         have M5:=hid (Ns.out.below (below_draws wx 1))
         refine wp_region_held_drew (S:=fun w'=>w'.cell? ⟨C.b+1,0,none⟩=some (.string C.s)/\CS w' b15 ⟨kx,tx,X,Y⟩) (by kernel_rfl) S0.out (fun hHeld=> ?_)
         refine Take.k 0 ⟨some 81,.move (.tmp 10),_,_,_,none⟩ ?_
         refine Take.k 1 ⟨some 82,.load 9 (.tmp 2),_,_,_,none⟩ ?_
         refine Take.k 2 ⟨some 83,.call ⟨.builtin .len, #[.tmp 82], #[9]⟩,_,_,_,none⟩ ?_
         refine Take.k 3 ⟨some 84,.binOp .lss 3 (.tmp 81) (.tmp 83) 3,_,_,_,none⟩ ?_
         refine Take.k 4 ⟨some 85,.move (.tmp 84),_,_,_,none⟩ ?_
         refine Take.u 5 ⟨some 86,.load 106 (.tmp 15),_,_,_,some (4,true)⟩ ?_
         refine Take.u 6 ⟨some 87,.load 9 (.tmp 2),_,_,_,some (4,true)⟩ ?_
         refine Take.u 7 ⟨some 88,.move (.tmp 10),_,_,_,some (4,true)⟩ ?_
         refine Take.u 8 ⟨some 89,.index 9 (.tmp 87) (.tmp 88),_,_,_,some (4,true)⟩ ?_
         refine Take.u 9 ⟨some 90,.call ⟨.value (.func 115), #[.tmp 86,.tmp 89], #[106,5]⟩,_,_,_,some (4,true)⟩ ?_
         refine Take.k 10 ⟨some 91,.pick (.tmp 85) (.tmp 90) (.const (.bool false)),_,_,_,none⟩ ?_
         refine Take.k 11 ⟨some 80,.assign (.tmp 91),_,_,_,none⟩ ?_
         refine wpAnyH_done (by kernel_rfl) ?_ _
         go_wp2_with fail
         go_roundg Lf
         case measure=>omega
         case rel=>exact⟨i+1,_,bg,true,v4,nx,rfl,rfl,by first|rfl|exact congrArg (Value.int .i64) DT.out,by have:=hig.out;unfold Hid;omega,I5,F3,Gz⟩
      have tk: ¬(i:Int)<(k:Int):=by omega
      have hdn:now.drop i= []:=by rw[List.drop_eq_nil_iff,HK.out];omega
      have hsc:=oU.out
      rw[hdn,scan]at hsc
      have hE:(if en then some bg else none)=E:=congrArg Prod.fst hsc
      have hX:nx=NX:=congrArg Prod.snd hsc
      subst hX
      have HE:=hid hE.symm
      clear hdn hsc hE hik
      go_wp2_with fail
      exact hrest _ _ _ _ _ _ _ _ _ _ _ _ _ _ _ _ _ _ _ _ _ _ _ _ _ _ _ _ _ _ _ _ _ _ _ _ _ _ _ _ _ _ _ _ _ _ _ _ _ _ _ _ _ _ _ _ _ _ _ _ _ _ _ _ _ _ _ _ _ _ _ _ _ _ _ _ _ _ _ _ _ _ _ _ _ _ _ _ _ _ _ I3 HE
   have hq: ¬(q:Int)<=(u:Int):=by intro h;exact hgo (Or.inl (by omega))
   have uV:now= []:=by by_cases e:now= [];exact e;exact absurd (Or.inr e) hgo
   subst uV
   obtain⟨A1,c1,rfl,-,-⟩:=I1.out.FW.form
   have a0:=I1.out.FW.c0
   have hx:Hid (pre=xs):=by
    unfold Hid
    rw[<-RN.out]
    cases gk with
    |zero=>simp[run]
    |succ gk=>rw[run,if_neg hgo,List.append_nil]
   clear hgo
   go_wp2_with fail
   (first|go_end0|refine bodyPost_ret (results_none rfl _ _ _) rfl ?_)
   exact⟨⟨_,rfl⟩,I1.out.all,T,I1.out.lies,I1.out.sub,Or.inl (by rw[<-hx.out];exact I1.out.j)⟩
end Fg
end Go.Proofs.YtfgegjinhkgpbaaGreatDoor
