/-
  Texts joined, in build order, each with its own comment and its own conditions: W15Rep, W15All, W15New, W14Sizes.
-/
import Derived.Test.YtfgegjinhkgpbaaGreatDoorTake
import Derived.Test.YtfgegjinhkgpbaaGreatDoorJ14
import Derived.Deep.Onto
import Derived.Test.YtfgegjinhkgpbaaGreatDoorJ10
import Derived.Test.YtfgegjinhkgpbaaGreatDoorJ07
namespace Go.Proofs.YtfgegjinhkgpbaaGreatDoor
set_option maxHeartbeats 4000000
set_option maxRecDepth 100000
open Go.RowKit
open Lib (hid)
namespace M15
open Go M14
theorem times_snoc (f:Nat→List Inst): ∀(n a:Nat),times f (n+1) a=times f n a++f (a+(times f n a).length)
 |0,a=>by simp[times]
 |n+1,a=>by
  rw[times,times_snoc f n (a+(f a).length),times,List.append_assoc,List.length_append,Nat.add_assoc]
def msp (K:Nat):Nat→Nat→List Nat
 |0,_=> []
 |n+1,a=>a::msp K n (a+(K+1))
theorem msp_len (K:Nat): ∀(n a:Nat),(msp K n a).length=n
 |0,_=>rfl
 |n+1,a=>by rw[msp,List.length_cons,msp_len K n]
theorem msp_snoc (K:Nat): ∀(n a:Nat),msp K (n+1) a=msp K n a++ [a+n*(K+1)]
 |0,a=>by simp[msp]
 |n+1,a=>by
  rw[msp,msp_snoc K n,msp,Nat.succ_mul,List.cons_append,show a+(K+1)+n*(K+1)=a+(n*(K+1)+(K+1)) by omega]
theorem msp_get (K:Nat): ∀(n a j:Nat),j<n→(msp K n a)[j]? =some (a+j*(K+1))
 |0,_,j,h=>by omega
 |n+1,a,0,_=>by simp[msp]
 |n+1,a,j+1,h=>by
  rw[msp,List.getElem?_cons_succ,msp_get K n _ j (by omega),Nat.succ_mul,show a+(K+1)+j*(K+1)=a+(j*(K+1)+(K+1)) by omega]
theorem maybe_snoc {f:Nat→List Inst} {K:Nat} (hf: ∀a,(f a).length=K) (e:Nat): ∀(n a:Nat),maybe f e (n+1) a=maybe f e n a++(split (a+n*(K+1)+1) e::f (a+n*(K+1)+1))
 |0,a=>by simp[maybe]
 |n+1,a=>by
  rw[maybe,maybe_snoc hf e n,maybe,hf,Nat.succ_mul,show a+1+K+n*(K+1)=a+(n*(K+1)+(K+1)) by omega]
  simp only[List.cons_append,List.append_assoc]
theorem mpatched {f:Nat→List Inst} {K:Nat} (hf: ∀a,(f a).length=K) (e:Nat) {n j:Nat} (hj:j<n) (a:Nat):
    maybe f e j a++maybe f 0 (n-j) (a+j*(K+1))=maybe f e j a++split (a+j*(K+1)+1) 0::(f (a+j*(K+1)+1)++maybe f 0 (n-(j+1)) (a+(j+1)*(K+1)))∧
    maybe f e (j+1) a++maybe f 0 (n-(j+1)) (a+(j+1)*(K+1))=maybe f e j a++split (a+j*(K+1)+1) e::(f (a+j*(K+1)+1)++maybe f 0 (n-(j+1)) (a+(j+1)*(K+1))):=by
 obtain⟨m,rfl⟩: ∃m,n=j+1+m:=⟨n-(j+1),by omega⟩
 rw[show j+1+m-j=m+1 by omega,show j+1+m-(j+1)=m by omega]
 refine⟨?_,?_⟩
 ·rw[maybe,hf,Nat.succ_mul,show a+j*(K+1)+1+K=a+(j*(K+1)+(K+1)) by omega]
 ·rw[maybe_snoc hf]
  simp only[List.append_assoc,List.cons_append]
end M15
namespace W15
open Strs Recs M15
open M14 (Piece size sizes)
open W14 (Raw Raws rawA rawC PAt PAll PBox below_new cell_block own_same own_form box_arg load_piece load_at two_new)
open Row256 (Beside)
open Kit (below_draws on)
set_option maxHeartbeats 8000000 in
theorem rep_ever {p:Piece} (IH:LayOk p) (hg:M15.Good p) {w:World} {b:Nat} {v:Value} {L:List Inst} {t:ByteArray} {A:Option Addr} {c:Nat} {M:Nat} {raws:List Raw} (h:Lay w b v L) (k1:KidsU b w A c raws [p]) {E:Nat} (hM:M≤100) (hE:L.length+(M*size p+size p+2)=E) (hl:E≤4000):
    Calls Tryz.prog 107 #[.pointer (some ⟨b,0,none⟩),.agg (rawA ⟨9,t,A,1,c,(M:Int),-1⟩)] w (Laid b v w (L++(times (steps p) M L.length++star (steps p) E (L.length+(times (steps p) M L.length).length)))):=by
 have HM:=hid hM
 clear hM
 have H:=hid h
 have K1:=hid k1
 have HIH:=hid IH
 have HG:=hid hg
 have HL:=hid hl
 have HE:=hid hE
 obtain⟨K,hK⟩: ∃K,size p=K:=⟨_,rfl⟩
 rw[hK]at HE
 have HK:=hid hK
 have hr:1≤c∧c≤9223372036854775807:=(k1.kids (Nat.le_of_lt h.box.lt)).room
 obtain⟨g1,o1,rfl,C1⟩:=(k1.kids (Nat.le_of_lt h.box.lt)).at_ (Nat.lt_succ_self 0)
 obtain⟨hr1,q1⟩:=k1.kid (i:=0) (Nat.lt_succ_self 0)
 have E1:=C1 0 hr1
 obtain⟨rk,hrk⟩: ∃rk,raws[0]=rk:=⟨_,rfl⟩
 rw[hrk]at E1 q1
 have Q1:Hid (PAt (fun k=>k<b) w rk p):=q1
 rw[show o1+0*5=o1 by omega]at E1
 have G1:Hid (g1<b):=k1.2.1 _ rfl (Nat.lt_of_le_of_lt (Nat.zero_le _) hr1)
 have E1:=hid E1
 have hr2:=hr.1
 have hr3:=hr.2
 clear h IH hg k1 hl hr hE C1 q1 hrk hr1 hK
 go_enter Tryz.func107,Tryz.ntmps107
 go_wp2_with (first
  |(refine box_arg (r:=⟨9,t,some ⟨g1,o1,none⟩,1,c,(M:Int),-1⟩) rfl (.tmp 1) rfl rfl ?_;intro w1 b1 e1 p1 l1 z1;have P1:=hid p1;have a2:=p1.c2;have L1:=hid l1;have B1:=hid (show b1≠b by have:=H.out.box.lt;omega);have E2:Hid (∀j,j<5→w1.cell? ⟨g1,o1+j,none⟩=(rawC rk)[j]?):=(fun j hj=>(cell_block (l1.block g1 (Nat.lt_trans G1.out H.out.box.lt))).trans (E1.out j hj));have HB1:=hid z1;have HB2:=hid e1;clear e1 p1 l1 z1;simp only at a2)
  |(refine load_at rfl (.tmp 12) rfl rfl (r:=rk) E2.out ?_))
 have H1:=hid (H.out.below L1.out)
 refine(again_any (b:=b) (r:=rk) H1.out.box.lt).mono ?_
 rintro e w2 ⟨c2,c3,c5,c6,c7,rfl,hc2,hc7,h5,a5,l5⟩
 have F5:=hid h5
 have C5:=hid (show w.heap.size≤c5∧w.heap.size≤c6∧w.heap.size≤c7∧c7<w2.heap.size∧b1<c5∧w.heap.size≤w2.heap.size from by
  have:=L1.out.size
  have:=l5.size
  have:=HB1.out
  have:=HB2.out
  unfold Five at h5
  exact⟨by omega,by omega,by omega,hc7,by omega,by omega⟩)
 have BX:Hid (b1≠c5∧b1≠c6∧b1≠c7):=by unfold Hid;have:=C5.out;unfold Five at h5;exact⟨by omega,by omega,by omega⟩
 have A2:=hid a5
 have H2:=hid (H1.out.below l5)
 have P2:=hid (P1.out.below l5)
 have G2:=hid (Grow.of (b:=b) (v:=v) (on L1.out l5))
 have Q2:=hid (below_piece (on L1.out l5) H.out.box.lt Q1.out)
 have HT:=hid H.out.box.lt
 clear a2 hc2 hc7 h5 a5 l5 hr2 hr3
 have a3:=P2.out.c3
 simp only at a3
 go_wp2_with fail
 clear a3
 obtain⟨B,hB⟩: ∃B,w2.heap.size=B:=⟨_,rfl⟩
 have HBB:=hid hB
 clear hB
 go_loopg [17] M (fun gk s17 wr=> ∃(i:Nat) (v1:Value) (laid:Bool) (f e:Nat),s17= .int .i64 i∧Hid (i+gk=M)∧Hid (Lay wr b v1 (L++times (steps p) i L.length))∧Hid (Again wr b c2 c3 c5 c6 c7 rk laid f e)∧Hid (Cons laid f e (L++times (steps p) i L.length) p)∧Hid (Grow b v v1 w wr)∧Hid (PBox wr b1 ⟨9,t,some ⟨g1,o1,none⟩,1,c,(M:Int),-1⟩)∧Hid (PAt (fun k=>k<b) wr rk p)∧Hid (B≤wr.heap.size))
 case atStart=>exact⟨0,v,false,0,0,rfl,by unfold Hid;omega,by unfold Hid;simp only[times,List.append_nil];exact H2.out,A2,fun q=>by simp at q,G2,P2,Q2,by unfold Hid;have:=HBB.out;omega⟩
 case round=>
  obtain⟨i,v1,laid,f,e,rfl,hig,HL1,AA,CC,GG,PP,QQ,GS⟩:=hrel
  by_cases hi:i<M
  ·have ti:(i:Int)<(M:Int):=by omega
   have hK4:K≤4000:=by have:=HE.out;have:=HL.out;omega
   have hlen:=steps_len HG.out (by rw[HK.out];exact hK4)
   rw[HK.out]at hlen
   have hMK:(i+1)*K≤M*K:=Nat.mul_le_mul_right _ hi
   rw[Nat.succ_mul]at hMK
   have hll:(L++times (steps p) i L.length).length=L.length+i*K:=by rw[List.length_append,times_len hlen]
   have HX:Hid (L++times (steps p) (i+1) L.length=L++times (steps p) i L.length++steps p (L++times (steps p) i L.length).length):=by
    unfold Hid
    rw[times_snoc,hll,times_len hlen,List.append_assoc]
   have HC:=hid (kid_any HIH.out HG.out (by rw[HK.out];exact hK4) HL1.out F5.out AA.out CC.out QQ.out (by rw[hll,HK.out];have:=HE.out;have:=HL.out;omega))
   have HI2:=hid hi
   have hwi:Hid (wrap64 ((i:Int)+1)=((i+1:Nat):Int)):=by unfold Hid wrap64;have:=HM.out;omega
   clear hll hMK hlen hK4 hi
   go_wp2_with fail
   refine HC.out.mono ?_
   rintro e5 w5 ⟨rfl,v5,f5,e5,l5,t5,a5,c5c⟩
   rw[←HX.out]at l5 c5c
   have L5:=hid l5
   have A5:=hid a5
   have CC5:=hid c5c
   have G5:=hid (GG.out.turn t5 C5.out.1 C5.out.2.1 C5.out.2.2.1)
   have P5:=hid (t5.boxed HL1.out PP.out B1.out BX.out)
   have Q5:=hid (t5.piece F5.out HL1.out QQ.out)
   have S5:=hid (Nat.le_trans GS.out t5.size)
   clear l5 t5 a5 c5c
   cases gk with
   |zero=>exact absurd hig.out (by have:=HI2.out;omega)
   |succ g=>
    go_wp2_with fail
    go_roundg g
    case measure=>omega
    case rel=>exact⟨i+1,v5,true,f5,e5,by first|rfl|exact congrArg (Value.int .i64) hwi.out,by have:=hig.out;unfold Hid;omega,L5,A5,CC5,G5,P5,Q5,S5⟩
  ·have ti: ¬(i:Int)<(M:Int):=by omega
   have hie:i=M:=by have:=hig.out;omega
   subst hie
   clear hi
   have hK4:K≤4000:=by have:=HE.out;have:=HL.out;omega
   have hlen:=steps_len HG.out (by rw[HK.out];exact hK4)
   rw[HK.out]at hlen
   obtain⟨N,hN⟩: ∃N,(L++times (steps p) i L.length).length=N:=⟨_,rfl⟩
   have hN2:N=L.length+i*K:=by rw[←hN,List.length_append,times_len hlen]
   obtain⟨Li,hLi⟩: ∃Li,L++times (steps p) i L.length=Li:=⟨_,rfl⟩
   have HFIN:Hid (L++(times (steps p) i L.length++star (steps p) E (L.length+(times (steps p) i L.length).length))=Li++M15.split (N+1) E::(steps p (N+1)++ [M15.jump N])):=by
    unfold Hid
    rw[times_len hlen,←hN2,←List.append_assoc,hLi];rfl
   rw[hLi]at hN HL1 CC
   have HNE:=hid hN
   have HEN:Hid (N+K+2=E∧E≤4000):=by unfold Hid;have:=HE.out;have:=HL.out;omega
   have HPL:=hid (hlen (N+1))
   have a4:=PP.out.c4
   simp only at a4
   clear hN hN2 hLi hlen
   go_wp2_with fail
   refine(step_any HL1.out (by rw[HNE.out];have:=HEN.out;omega) 6 ⟨#[]⟩).mono ?_
   rintro e5 w5 ⟨rfl,v5,l5,g5⟩
   rw[HNE.out]
   rw[HNE.out]at l5
   have L5:=hid l5
   have A5:=hid (AA.out.grow F5.out HL1.out g5)
   have C5c:=hid (CC.out.more [(⟨6,⟨#[]⟩,((N+1:Nat):Int),0⟩:Inst)])
   have G5:=hid (GG.out.trans g5)
   have Q5:=hid (g5.piece HL1.out QQ.out)
   have hl5:(Li++ [(⟨6,⟨#[]⟩,((N+1:Nat):Int),0⟩:Inst)]).length=N+1:=by rw[List.length_append,HNE.out];rfl
   have HC:=hid (kid_any HIH.out HG.out (by rw[HK.out];exact hK4) L5.out F5.out A5.out C5c.out Q5.out (by rw[hl5,HK.out];have:=HEN.out;omega))
   have HL5:=hid hl5
   clear l5 g5 hl5 a4 hK4
   go_wp2_with fail
   refine HC.out.mono ?_
   rintro e6 w6 ⟨rfl,v6,f6,e6,l6,t6,-,-⟩
   rw[HL5.out]at l6
   have L6:=hid l6
   have G6:=hid (G5.out.turn t6 C5.out.1 C5.out.2.1 C5.out.2.2.1)
   have hl6:(Li++ [(⟨6,⟨#[]⟩,((N+1:Nat):Int),0⟩:Inst)]++steps p (N+1)).length=N+1+K:=by rw[List.length_append,HL5.out,HPL.out]
   have HL6:=hid hl6
   clear l6 t6 hl6
   go_wp2_with fail
   refine(jump_any L6.out (by rw[HL6.out];have:=HEN.out;omega) N).mono ?_
   rintro e7 w7 ⟨rfl,v7,h7,g7⟩
   have G7:=hid (G6.out.trans g7)
   have hl7:(Li++ [(⟨6,⟨#[]⟩,((N+1:Nat):Int),0⟩:Inst)]++steps p (N+1)++ [M15.jump N]).length=E:=by
    rw[List.length_append,HL6.out]
    have:=HEN.out
    simp only[List.length_cons,List.length_nil];omega
   obtain⟨gs,cs,hv7,hq1,hq2⟩:=h7.shape (by rw[hl7];have:=HEN.out;omega)
   rw[hl7]at hv7 hq1
   subst hv7
   have H7:Hid (Lay w7 b (.slice (some ⟨gs,0,none⟩) E cs) (Li++(⟨6,⟨#[]⟩,((N+1:Nat):Int),0⟩:Inst)::(steps p (N+1)++ [M15.jump N]))):=by
    have:=h7
    rw[List.append_assoc,List.append_assoc]at this
    exact this
   have HCS:=hid (show E≤cs∧cs≤9223372036854775807 from⟨hq1,hq2⟩)
   have D7:=hid (below_draws w7 1)
   have H7d:=hid (H7.out.below D7.out)
   have HH:Hid (Calls Tryz.prog 133 #[.pointer (some ⟨b,0,none⟩)] (w7.drewN 1) fun e w'=>e= .returned (.int .i64 E)∧w'=w7.drewN 1):=by
    have h1:=here_any H7d.out
    have h2:(Li++(⟨6,⟨#[]⟩,((N+1:Nat):Int),0⟩:Inst)::(steps p (N+1)++ [M15.jump N])).length=E:=by rw[←hl7];simp only[List.append_assoc,List.cons_append,List.nil_append]
    rw[h2]at h1
    exact h1
   have S0:Hid ((w7.drewN 1).cell? ⟨b,0,none⟩=some (.slice (some ⟨gs,0,none⟩) E cs)):=H7d.out.box.c0
   obtain⟨-,f2,f3⟩:=H7d.out.field HNE.out
   simp only at f2
   have f3:=f3 (N*4+3)
   have SET:=H7d.out.set3 (E:Int)
   rw[HNE.out]at SET
   have HX:=hid SET
   have SE:Hid (((w7.drewN 1).setCell ⟨gs,N*4+3,none⟩ (.int .i64 E)).cell? ⟨b,0,none⟩=some (.slice (some ⟨gs,0,none⟩) E cs)):=SET.1.box.c0
   have tq:(N:Int)<(E:Int):=by have:=HEN.out;omega
   clear h7 g7 hl7 hq1 hq2 SET
   go_wp2_with fail
   refine wp_region_held_drew (S:=fun w'=>w'.cell? ⟨b,0,none⟩=some (.slice (some ⟨gs,0,none⟩) E cs)) (by kernel_rfl) S0.out (fun hHeld=> ?_)
   refine Take.k 0 ⟨some 32,.move (.tmp 0),_,_,_,none⟩ ?_
   refine Take.k 1 ⟨some 33,.nilCheck (.tmp 32),_,_,_,none⟩ ?_
   refine Take.k 2 ⟨some 34,.fieldAddr 104 (.tmp 33) 0,_,_,_,none⟩ ?_
   refine Take.k 3 ⟨some 35,.load 46 (.tmp 34),_,_,_,none⟩ ?_
   refine Take.k 4 ⟨some 36,.move (.tmp 5),_,_,_,none⟩ ?_
   refine Take.k 5 ⟨some 37,.move (.tmp 0),_,_,_,none⟩ ?_
   refine wpAnyH_ready (rs:= [6]) (by kernel_rfl) (by simp) ?_
   refine AllReadyH.cons (o:=⟨some 38,.call ⟨.value (.func 133), #[.tmp 37], #[99]⟩,_,_,_,none⟩) rfl (fun K hK=> ?_) AllReadyH.nil
   go_simp
   (go_at_call 133;refine HH.out.mono ?_;rintro e x1 ⟨rfl,rfl⟩)
   go_wp2_with fail
   refine hK.out _ _ ?_ (fun hHeld=> ?_)
   ·exact S0.out
   clear hK K
   try simp only[Act.put,Take.a,Take.b,Take.c]
   refine Take.k 7 ⟨some 39,.indexAddr 46 (.tmp 35) (.tmp 36),_,_,_,none⟩ ?_
   refine Take.k 8 ⟨some 40,.fieldAddr 106 (.tmp 39) 3,_,_,_,none⟩ ?_
   refine wpAnyH_ready (rs:= [9]) (by kernel_rfl) (by simp) ?_
   refine AllReadyH.cons (o:=⟨none,.store 3 (.tmp 40) (.tmp 38),_,_,_,none⟩) rfl (fun K hK=> ?_) AllReadyH.nil
   go_simp
   skip
   go_wp2_with fail
   refine hK.out _ _ ?_ (fun hHeld=> ?_)
   ·exact SE.out
   clear hK K
   try simp only[Act.put,Take.a,Take.b,Take.c]
   refine wpAnyH_done (by kernel_rfl) ?_ _
   have FIN:Hid (Lay ((w7.drewN 1).setCell ⟨gs,N*4+3,none⟩ (.int .i64 E)) b (.slice (some ⟨gs,0,none⟩) E cs) (L++(times (steps p) i L.length++star (steps p) E (L.length+(times (steps p) i L.length).length)))):=by unfold Hid;rw[HFIN.out];exact HX.out.1
   have G8:=hid ((G7.out.trans (Grow.of D7.out)).trans HX.out.2)
   clear f2 f3 tq
   go_wp2_with fail
   (first|go_end0|refine bodyPost_ret (results_none rfl _ _ _) rfl ?_)
   exact⟨rfl,_,FIN.out,G8.out⟩
set_option maxHeartbeats 8000000 in
theorem rep_upto {p:Piece} (IH:LayOk p) (hg:M15.Good p) {w:World} {b:Nat} {v:Value} {L:List Inst} {t:ByteArray} {A:Option Addr} {c:Nat} {M T D:Nat} {raws:List Raw} (h:Lay w b v L) (k1:KidsU b w A c raws [p]) {E:Nat} (hM:M≤100) (hT:M+D=T∧T≤100) (hE:L.length+(M*size p+D*(size p+1))=E) (hl:E≤4000) (hK0:0<M∨0<D→size p≤4000):
    Calls Tryz.prog 107 #[.pointer (some ⟨b,0,none⟩),.agg (rawA ⟨9,t,A,1,c,(M:Int),(T:Int)⟩)] w (Laid b v w (L++(times (steps p) M L.length++maybe (steps p) E D (L.length+(times (steps p) M L.length).length)))):=by
 have HM:=hid hM
 have HTT:=hid hT
 have HK0:=hid hK0
 clear hM hT hK0
 have H:=hid h
 have K1:=hid k1
 have HIH:=hid IH
 have HG:=hid hg
 have HL:=hid hl
 have HE:=hid hE
 obtain⟨K,hK⟩: ∃K,size p=K:=⟨_,rfl⟩
 rw[hK]at HE HK0
 have HK:=hid hK
 have hr:1≤c∧c≤9223372036854775807:=(k1.kids (Nat.le_of_lt h.box.lt)).room
 obtain⟨g1,o1,rfl,C1⟩:=(k1.kids (Nat.le_of_lt h.box.lt)).at_ (Nat.lt_succ_self 0)
 obtain⟨hr1,q1⟩:=k1.kid (i:=0) (Nat.lt_succ_self 0)
 have E1:=C1 0 hr1
 obtain⟨rk,hrk⟩: ∃rk,raws[0]=rk:=⟨_,rfl⟩
 rw[hrk]at E1 q1
 have Q1:Hid (PAt (fun k=>k<b) w rk p):=q1
 rw[show o1+0*5=o1 by omega]at E1
 have G1:Hid (g1<b):=k1.2.1 _ rfl (Nat.lt_of_le_of_lt (Nat.zero_le _) hr1)
 have E1:=hid E1
 have hr2:=hr.1
 have hr3:=hr.2
 clear h IH hg k1 hl hr hE C1 q1 hrk hr1 hK
 go_enter Tryz.func107,Tryz.ntmps107
 go_wp2_with (first
  |(refine box_arg (r:=⟨9,t,some ⟨g1,o1,none⟩,1,c,(M:Int),(T:Int)⟩) rfl (.tmp 1) rfl rfl ?_;intro w1 b1 e1 p1 l1 z1;have P1:=hid p1;have a2:=p1.c2;have L1:=hid l1;have B1:=hid (show b1≠b by have:=H.out.box.lt;omega);have E2:Hid (∀j,j<5→w1.cell? ⟨g1,o1+j,none⟩=(rawC rk)[j]?):=(fun j hj=>(cell_block (l1.block g1 (Nat.lt_trans G1.out H.out.box.lt))).trans (E1.out j hj));have HB1:=hid z1;have HB2:=hid e1;clear e1 p1 l1 z1;simp only at a2)
  |(refine load_at rfl (.tmp 12) rfl rfl (r:=rk) E2.out ?_))
 have H1:=hid (H.out.below L1.out)
 refine(again_any (b:=b) (r:=rk) H1.out.box.lt).mono ?_
 rintro e w2 ⟨c2,c3,c5,c6,c7,rfl,hc2,hc7,h5,a5,l5⟩
 have F5:=hid h5
 have C5:=hid (show w.heap.size≤c5∧w.heap.size≤c6∧w.heap.size≤c7∧c7<w2.heap.size∧b1<c5∧w.heap.size≤w2.heap.size from by
  have:=L1.out.size
  have:=l5.size
  have:=HB1.out
  have:=HB2.out
  unfold Five at h5
  exact⟨by omega,by omega,by omega,hc7,by omega,by omega⟩)
 have BX:Hid (b1≠c5∧b1≠c6∧b1≠c7):=by unfold Hid;have:=C5.out;unfold Five at h5;exact⟨by omega,by omega,by omega⟩
 have A2:=hid a5
 have H2:=hid (H1.out.below l5)
 have P2:=hid (P1.out.below l5)
 have G2:=hid (Grow.of (b:=b) (v:=v) (on L1.out l5))
 have Q2:=hid (below_piece (on L1.out l5) H.out.box.lt Q1.out)
 have HT:=hid H.out.box.lt
 clear a2 hc2 hc7 h5 a5 l5 hr2 hr3
 have a3:=P2.out.c3
 simp only at a3
 go_wp2_with fail
 clear a3
 obtain⟨B,hB⟩: ∃B,w2.heap.size=B:=⟨_,rfl⟩
 have HBB:=hid hB
 clear hB
 go_loopg [17] M (fun gk s17 wr=> ∃(i:Nat) (v1:Value) (laid:Bool) (f e:Nat),s17= .int .i64 i∧Hid (i+gk=M)∧Hid (Lay wr b v1 (L++times (steps p) i L.length))∧Hid (Again wr b c2 c3 c5 c6 c7 rk laid f e)∧Hid (Cons laid f e (L++times (steps p) i L.length) p)∧Hid (Grow b v v1 w wr)∧Hid (PBox wr b1 ⟨9,t,some ⟨g1,o1,none⟩,1,c,(M:Int),(T:Int)⟩)∧Hid (PAt (fun k=>k<b) wr rk p)∧Hid (B≤wr.heap.size))
 case atStart=>exact⟨0,v,false,0,0,rfl,by unfold Hid;omega,by unfold Hid;simp only[times,List.append_nil];exact H2.out,A2,fun q=>by simp at q,G2,P2,Q2,by unfold Hid;have:=HBB.out;omega⟩
 case round=>
  obtain⟨i,v1,laid,f,e,rfl,hig,HL1,AA,CC,GG,PP,QQ,GS⟩:=hrel
  by_cases hi:i<M
  ·have ti:(i:Int)<(M:Int):=by omega
   have hK4:K≤4000:=HK0.out (.inl (Nat.lt_of_le_of_lt (Nat.zero_le _) hi))
   have hlen:=steps_len HG.out (by rw[HK.out];exact hK4)
   rw[HK.out]at hlen
   have hMK:(i+1)*K≤M*K:=Nat.mul_le_mul_right _ hi
   rw[Nat.succ_mul]at hMK
   have hll:(L++times (steps p) i L.length).length=L.length+i*K:=by rw[List.length_append,times_len hlen]
   have HX:Hid (L++times (steps p) (i+1) L.length=L++times (steps p) i L.length++steps p (L++times (steps p) i L.length).length):=by
    unfold Hid
    rw[times_snoc,hll,times_len hlen,List.append_assoc]
   have HC:=hid (kid_any HIH.out HG.out (by rw[HK.out];exact hK4) HL1.out F5.out AA.out CC.out QQ.out (by rw[hll,HK.out];have:=HE.out;have:=HL.out;omega))
   have HI2:=hid hi
   have hwi:Hid (wrap64 ((i:Int)+1)=((i+1:Nat):Int)):=by unfold Hid wrap64;have:=HM.out;omega
   clear hll hMK hlen hK4 hi
   go_wp2_with fail
   refine HC.out.mono ?_
   rintro e5 w5 ⟨rfl,v5,f5,e5,l5,t5,a5,c5c⟩
   rw[←HX.out]at l5 c5c
   have L5:=hid l5
   have A5:=hid a5
   have CC5:=hid c5c
   have G5:=hid (GG.out.turn t5 C5.out.1 C5.out.2.1 C5.out.2.2.1)
   have P5:=hid (t5.boxed HL1.out PP.out B1.out BX.out)
   have Q5:=hid (t5.piece F5.out HL1.out QQ.out)
   have S5:=hid (Nat.le_trans GS.out t5.size)
   clear l5 t5 a5 c5c
   cases gk with
   |zero=>exact absurd hig.out (by have:=HI2.out;omega)
   |succ g=>
    go_wp2_with fail
    go_roundg g
    case measure=>omega
    case rel=>exact⟨i+1,v5,true,f5,e5,by first|rfl|exact congrArg (Value.int .i64) hwi.out,by have:=hig.out;unfold Hid;omega,L5,A5,CC5,G5,P5,Q5,S5⟩
  ·have ti: ¬(i:Int)<(M:Int):=by omega
   have hie:i=M:=by have:=hig.out;omega
   subst hie
   clear hi
   have HLEN:Hid (0<D→ ∀a,(steps p a).length=K):=fun h=>by
    have h1:=steps_len HG.out (by rw[HK.out];exact HK0.out (.inr h))
    rw[HK.out]at h1
    exact h1
   obtain⟨N,hN⟩: ∃N,(L++times (steps p) i L.length).length=N:=⟨_,rfl⟩
   have hN2:N+D*(K+1)=E:=by
    by_cases q:0<i
    ·have h1:=steps_len HG.out (by rw[HK.out];exact HK0.out (.inl q))
     rw[HK.out]at h1
     have h2:N=L.length+i*K:=by rw[←hN,List.length_append,times_len h1]
     have:=HE.out
     omega
    ·obtain rfl:i=0:=by omega
     have h2:N=L.length:=by rw[←hN];simp[times]
     have:=HE.out
     omega
   obtain⟨Li,hLi⟩: ∃Li,L++times (steps p) i L.length=Li:=⟨_,rfl⟩
   have HFIN:Hid (L++(times (steps p) i L.length++maybe (steps p) E D (L.length+(times (steps p) i L.length).length))=Li++maybe (steps p) E D N):=by
    unfold Hid
    rw[←List.length_append,hN,←List.append_assoc,hLi]
   rw[hLi]at hN HL1 CC
   have HNE:=hid hN
   have HN2:=hid hN2
   have a3:=PP.out.c3
   have a4:=PP.out.c4
   simp only at a3 a4
   have tT:((T:Int)== -1)=false:=by simp
   have hwD:wrap64 ((T:Int)-(i:Int))=(D:Int):=by have:=HTT.out;unfold wrap64;omega
   have HGB:=hid (show w.heap.size≤B∧B≤wr.heap.size from⟨by have:=C5.out.2.2.2.2.2;have:=HBB.out;omega,GS.out⟩)
   clear hN hN2 hLi
   go_wp2_with fail
   clear a3 a4 hwD tT
   go_loopg [6,46] D (fun gk s6 s46 wr=> ∃(j:Nat) (v1 vj:Value) (laid:Bool) (f e:Nat),s6=vj∧s46= .int .i64 j∧Hid (j+gk=D)∧Hid (Lay wr b v1 (Li++maybe (steps p) 0 j N))∧Hid (Nums B wr vj (msp K j N))∧Hid (Again wr b c2 c3 c5 c6 c7 rk laid f e)∧Hid (Cons laid f e (Li++maybe (steps p) 0 j N) p)∧Hid (Grow b v v1 w wr)∧Hid (PAt (fun k=>k<b) wr rk p)∧Hid (B≤wr.heap.size))
   case atStart=>exact⟨0,v1,.slice none 0 0,laid,f,e,rfl,rfl,by unfold Hid;omega,by unfold Hid;simp only[maybe,List.append_nil];exact HL1.out,Nums.nil _ _,AA,by unfold Hid;simp only[maybe,List.append_nil];exact CC.out,GG,QQ,GS⟩
   case round=>
    obtain⟨j,v2,vj,laid2,f2,e2,rfl,rfl,hjg,HL2,NN,A2b,CC2,GG2,QQ2,GS2⟩:=hrel
    by_cases hj:j<D
    ·have tj:(j:Int)<(D:Int):=by omega
     have hlen:=HLEN.out (by omega)
     have hK4:K≤4000:=HK0.out (.inr (by omega))
     have hjm:(j+1)*(K+1)≤D*(K+1):=Nat.mul_le_mul_right _ hj
     rw[Nat.succ_mul]at hjm
     obtain⟨J,hJ⟩: ∃J,N+j*(K+1)=J:=⟨_,rfl⟩
     have hJE:J+(K+1)≤E∧E≤4000:=by have:=HN2.out;have:=HL.out;omega
     obtain⟨Lj,hLj⟩: ∃Lj,Li++maybe (steps p) 0 j N=Lj:=⟨_,rfl⟩
     have hl1:Lj.length=J:=by rw[←hLj,List.length_append,HNE.out,maybe_len hlen];exact hJ
     have HX:Hid (Li++maybe (steps p) 0 (j+1) N=Lj++ [(⟨6,⟨#[]⟩,((J+1:Nat):Int),0⟩:Inst)]++steps p (J+1)):=by
      unfold Hid
      rw[maybe_snoc hlen,hJ,←List.append_assoc,hLj,List.append_assoc];rfl
     have HMS:Hid (msp K (j+1) N=msp K j N++ [J]):=by unfold Hid;rw[msp_snoc,hJ]
     have HML:Hid ((msp K j N).length≤4000):=by unfold Hid;rw[msp_len];have:=HTT.out;omega
     rw[hLj]at HL2 CC2
     have HJL:=hid hl1
     have HJE:=hid hJE
     have HJ2:=hid hj
     have hwi:Hid (wrap64 ((j:Int)+1)=((j+1:Nat):Int)):=by unfold Hid wrap64;have:=HTT.out;omega
     clear hlen hjm hJ hJE hLj hl1 hj
     go_wp2_with fail
     refine(step_any HL2.out (by rw[HJL.out];have:=HJE.out;omega) 6 ⟨#[]⟩).mono ?_
     rintro e5 w5 ⟨rfl,v5,l5,g5⟩
     rw[HJL.out]
     rw[HJL.out]at l5
     have L5:=hid l5
     have A5:=hid (A2b.out.grow F5.out HL2.out g5)
     have C5c:=hid (CC2.out.more [(⟨6,⟨#[]⟩,((J+1:Nat):Int),0⟩:Inst)])
     have G5:=hid (GG2.out.trans g5)
     have Q5:=hid (g5.piece HL2.out QQ2.out)
     have N5:=hid (NN.out.grow HL2.out (Nat.lt_of_lt_of_le HT.out HGB.out.1) g5)
     have S5:=hid (Nat.le_trans GS2.out g5.size)
     have hl5:(Lj++ [(⟨6,⟨#[]⟩,((J+1:Nat):Int),0⟩:Inst)]).length=J+1:=by rw[List.length_append,HJL.out];rfl
     have HL5:=hid hl5
     clear l5 g5 hl5
     go_wp2_with (first
      |(refine slice_num (n:=J) rfl (.tmp 50) rfl rfl ?_;intro w8 b8 e8 p8 l8 z8;have L8:=hid l8;have P8:=hid p8;clear e8 p8 l8 z8)
      |(refine append_num rfl (.tmp 48) (.tmp 51) rfl rfl rfl (N5.out.below L8.out) P8.out (by have:=HML.out;simp only[List.length_cons,List.length_nil];omega) (Nat.le_trans S5.out L8.out.size) ?_;intro vn w9 o9 p9;have N9:=hid o9;have P9:=hid p9;clear o9 p9))
     have N8:=hid (N5.out.below L8.out)
     have BB:=hid (show b<B∧c7<B from⟨Nat.lt_of_lt_of_le HT.out HGB.out.1,by have:=C5.out;have:=HBB.out;omega⟩)
     have H9:=hid ((L5.out.below L8.out).put_nums N8.out BB.out.1 P9.out)
     have A9:=hid ((A5.out.below L8.out).nums F5.out N8.out BB.out.2 P9.out)
     have G9:=hid ((G5.out.trans (Grow.of L8.out)).put P9.out fun k hk=>Nat.le_trans HGB.out.1 (N8.out.lt k hk).1)
     have Q8:=hid (below_piece L8.out L5.out.box.lt Q5.out)
     have Q9:Hid (PAt (fun k=>k<b) w9 rk p):=by
      have g5:=P9.out.grown.block
      exact Q8.out.keep (fun _ q=>q) fun a (q:a.block<b)=>cell_block (g5 _ (Nat.lt_trans q (L5.out.below L8.out).box.lt) (fun q2=>by have:=(N8.out.lt _ q2.symm).1;have:=BB.out.1;omega))
     have S9:=hid (Nat.le_trans S5.out (Nat.le_trans L8.out.size P9.out.grown.size))
     have HC:=hid (kid_any HIH.out HG.out (by rw[HK.out];exact hK4) H9.out F5.out A9.out C5c.out Q9.out (by rw[HL5.out,HK.out];have:=HJE.out;omega))
     clear hK4
     go_wp2_with fail
     refine HC.out.mono ?_
     rintro e6 w6 ⟨rfl,v6,f6,e6,l6,t6,a6,c6c⟩
     rw[HL5.out,←HX.out]at l6 c6c
     have L6:=hid l6
     have A6:=hid a6
     have CC6:=hid c6c
     have G6:=hid (G9.out.turn t6 C5.out.1 C5.out.2.1 C5.out.2.2.1)
     have Q6:=hid (t6.piece F5.out H9.out Q9.out)
     have S6:=hid (Nat.le_trans S9.out t6.size)
     have N6:Hid (Nums B w6 vn (msp K (j+1) N)):=by unfold Hid;rw[HMS.out];exact Nums.turn N9.out F5.out BB.out.2 H9.out t6
     clear l6 t6 a6 c6c
     cases gk with
     |zero=>exact absurd hjg.out (by have:=HJ2.out;omega)
     |succ g=>
      go_wp2_with fail
      go_roundg g
      case measure=>omega
      case rel=>exact⟨j+1,v6,vn,true,f6,e6,rfl,by first|rfl|exact congrArg (Value.int .i64) hwi.out,by have:=hjg.out;unfold Hid;omega,L6,N6,A6,CC6,G6,Q6,S6⟩
    ·have tj: ¬(j:Int)<(D:Int):=by omega
     have hje:j=D:=by have:=hjg.out;omega
     subst hje
     obtain⟨M0,hM0⟩: ∃M0,msp K j N=M0:=⟨_,rfl⟩
     have hml:M0.length=j:=by rw[←hM0,msp_len]
     rw[hM0]at NN
     obtain⟨Aj,cj,rfl,hcj1,hcj2⟩:=NN.out.recs.form
     unfold maxLen at hcj2
     rw[hml]at hcj1 NN ⊢
     have HCJ:=hid (show j≤cj∧cj≤9223372036854775807 from⟨hcj1,hcj2⟩)
     have HM0:=hid hM0
     have HML:=hid hml
     have HA2:Hid (Li++maybe (steps p) 0 j N=Li++(maybe (steps p) E 0 N++maybe (steps p) 0 (j-0) (N+0*(K+1)))):=by
      unfold Hid
      simp only[maybe,List.nil_append,Nat.sub_zero,Nat.zero_mul,Nat.add_zero]
     clear hj hml hM0
     go_wp2_with fail
     clear hcj1 hcj2
     go_loopg [58] j (fun gk s58 wr=> ∃(k:Nat) (vL:Value),s58= .int .i64 k∧Hid (k+gk=j)∧Hid (Lay wr b vL (Li++(maybe (steps p) E k N++maybe (steps p) 0 (j-k) (N+k*(K+1)))))∧Hid (Nums B wr (.slice Aj j cj) M0)∧Hid (Grow b v vL w wr))
     case atStart=>exact⟨0,v2,rfl,by unfold Hid;omega,by unfold Hid;rw[←HA2.out];exact HL2.out,NN,GG2⟩
     case round=>
      obtain⟨k,vL,rfl,hkg,HL3,N3,G3⟩:=hrel
      have hcj1:=HCJ.out.1
      have hcj2:=HCJ.out.2
      by_cases hk:k<j
      ·have tk:(k:Int)<(j:Int):=by omega
       have hlen:=HLEN.out (by omega)
       obtain⟨hX1,hX2⟩:=mpatched hlen E hk N
       obtain⟨gj,cj2,hvj,-,-,-,-⟩:=own_form N3.out (by rw[HML.out];omega)
       injection hvj with hv1 hv2 hv3
       subst hv1
       obtain⟨J,hJ⟩: ∃J,N+k*(K+1)=J:=⟨_,rfl⟩
       have hkm:(k+1)*(K+1)≤j*(K+1):=Nat.mul_le_mul_right _ hk
       rw[Nat.succ_mul]at hkm
       have hJE:J+(K+1)≤E∧E≤4000:=by have:=HN2.out;have:=HL.out;omega
       have hcell:wr.cell? ⟨gj,k,none⟩=some (.int .i64 (J:Nat)):=by
        have h1:k<M0.length:=by rw[HML.out];exact hk
        have h2:=flat_at numC_len M0 k h1 0 (by decide)
        have h3:M0[k]=J:=by
         have:=msp_get K j N k hk
         rw[HM0.out,List.getElem?_eq_getElem h1,hJ]at this
         exact Option.some.inj this
        have h4:=N3.out
        unfold Nums at h4
        rw[HML.out]at h4
        have h5:=h4.cellAt k (by omega)
        rw[Nat.mul_one,Nat.add_zero]at h2
        rw[h5,h2,h3];rfl
       rw[hX1,hJ,←List.append_assoc]at HL3
       rw[hJ]at hX2
       obtain⟨X,hX⟩: ∃X,Li++maybe (steps p) E k N=X:=⟨_,rfl⟩
       obtain⟨Z,hZ⟩: ∃Z,steps p (J+1)++maybe (steps p) 0 (j-(k+1)) (N+(k+1)*(K+1))=Z:=⟨_,rfl⟩
       rw[hX,hZ]at HL3
       have hXl:X.length=J:=by rw[←hX,List.length_append,HNE.out,maybe_len hlen];exact hJ
       have hlen2:(X++M15.split (J+1) 0::Z).length=E:=by
        have h1:Z.length=K+(j-(k+1))*(K+1):=by rw[←hZ,List.length_append,hlen,maybe_len hlen]
        have h2:(j-(k+1))*(K+1)+(k+1)*(K+1)=j*(K+1):=by rw[←Nat.add_mul];congr 1;omega
        rw[Nat.succ_mul]at h2
        have:=HN2.out
        simp only[List.length_append,List.length_cons,hXl,h1]
        omega
       obtain⟨gs,cs,hvL,hq1,hq2⟩:=HL3.out.shape (by rw[hlen2];omega)
       rw[hlen2]at hvL hq1
       subst hvL
       have D3:=hid (below_draws wr 1)
       have H3d:=hid (HL3.out.below D3.out)
       have HH:Hid (Calls Tryz.prog 133 #[.pointer (some ⟨b,0,none⟩)] (wr.drewN 1) fun e w'=>e= .returned (.int .i64 E)∧w'=wr.drewN 1):=by
        have h1:=here_any H3d.out
        rw[hlen2]at h1
        exact h1
       have S0:Hid ((wr.drewN 1).cell? ⟨b,0,none⟩=some (.slice (some ⟨gs,0,none⟩) E cs)):=H3d.out.box.c0
       obtain⟨-,f2,f3⟩:=H3d.out.field hXl
       have f3:=f3 (J*4+3)
       unfold M15.split at f2
       simp only at f2
       have SET:=H3d.out.set3 (E:Int)
       rw[hXl]at SET
       have HX:=hid SET
       have SE:Hid (((wr.drewN 1).setCell ⟨gs,J*4+3,none⟩ (.int .i64 E)).cell? ⟨b,0,none⟩=some (.slice (some ⟨gs,0,none⟩) E cs)):=SET.1.box.c0
       have tq:(J:Int)<(E:Int):=by omega
       have HX2:Hid (Li++(maybe (steps p) E (k+1) N++maybe (steps p) 0 (j-(k+1)) (N+(k+1)*(K+1)))=X++M15.split (J+1) E::Z):=by
        unfold Hid
        rw[hX2,←List.append_assoc,hX,hZ]
       have hwk:Hid (wrap64 ((k:Int)+1)=((k+1:Nat):Int)):=by unfold Hid wrap64;have:=HCJ.out;omega
       have HJ2:=hid hk
       have BB:=hid (show b<B from Nat.lt_of_lt_of_le HT.out HGB.out.1)
       clear SET hX1 hX2 hJ hlen hlen2 hv2 hv3 hk hJE hkm hXl hX hZ hq1 hq2
       go_wp2_with fail
       refine wp_region_held_drew (S:=fun w'=>w'.cell? ⟨b,0,none⟩=some (.slice (some ⟨gs,0,none⟩) E cs)) (by kernel_rfl) S0.out (fun hHeld=> ?_)
       refine Take.k 0 ⟨some 62,.move (.tmp 0),_,_,_,none⟩ ?_
       refine Take.k 1 ⟨some 63,.nilCheck (.tmp 62),_,_,_,none⟩ ?_
       refine Take.k 2 ⟨some 64,.fieldAddr 104 (.tmp 63) 0,_,_,_,none⟩ ?_
       refine Take.k 3 ⟨some 65,.load 46 (.tmp 64),_,_,_,none⟩ ?_
       refine Take.k 4 ⟨some 66,.move (.tmp 8),_,_,_,none⟩ ?_
       refine Take.k 5 ⟨some 67,.move (.tmp 0),_,_,_,none⟩ ?_
       refine wpAnyH_ready (rs:= [6]) (by kernel_rfl) (by simp) ?_
       refine AllReadyH.cons (o:=⟨some 68,.call ⟨.value (.func 133), #[.tmp 67], #[99]⟩,_,_,_,none⟩) rfl (fun K hK=> ?_) AllReadyH.nil
       go_simp
       (go_at_call 133;refine HH.out.mono ?_;rintro e x1 ⟨rfl,rfl⟩)
       go_wp2_with fail
       refine hK.out _ _ ?_ (fun hHeld=> ?_)
       ·exact S0.out
       clear hK K
       try simp only[Act.put,Take.a,Take.b,Take.c]
       refine Take.k 7 ⟨some 69,.indexAddr 46 (.tmp 65) (.tmp 66),_,_,_,none⟩ ?_
       refine Take.k 8 ⟨some 70,.fieldAddr 106 (.tmp 69) 3,_,_,_,none⟩ ?_
       refine wpAnyH_ready (rs:= [9]) (by kernel_rfl) (by simp) ?_
       refine AllReadyH.cons (o:=⟨none,.store 3 (.tmp 70) (.tmp 68),_,_,_,none⟩) rfl (fun K hK=> ?_) AllReadyH.nil
       go_simp
       skip
       go_wp2_with fail
       refine hK.out _ _ ?_ (fun hHeld=> ?_)
       ·exact SE.out
       clear hK K
       try simp only[Act.put,Take.a,Take.b,Take.c]
       refine wpAnyH_done (by kernel_rfl) ?_ _
       have H5:Hid (Lay ((wr.drewN 1).setCell ⟨gs,J*4+3,none⟩ (.int .i64 E)) b (.slice (some ⟨gs,0,none⟩) E cs) (Li++(maybe (steps p) E (k+1) N++maybe (steps p) 0 (j-(k+1)) (N+(k+1)*(K+1))))):=by unfold Hid;rw[HX2.out];exact HX.out.1
       have N5:=hid ((Nums.below N3.out D3.out).grow H3d.out BB.out HX.out.2)
       have G5:=hid ((G3.out.trans (Grow.of D3.out)).trans HX.out.2)
       clear f2 f3 tq hcell
       cases gk with
       |zero=>exact absurd hkg.out (by have:=HJ2.out;omega)
       |succ g=>
        go_wp2_with fail
        go_roundg g
        case measure=>omega
        case rel=>exact⟨k+1,_,by first|rfl|exact congrArg (Value.int .i64) hwk.out,by have:=hkg.out;unfold Hid;omega,H5,N5,G5⟩
      ·have tk: ¬(k:Int)<(j:Int):=by omega
       have hke:k=j:=by have:=hkg.out;omega
       subst hke
       have HL4:Hid (Lay wr b vL (L++(times (steps p) i L.length++maybe (steps p) E k (L.length+(times (steps p) i L.length).length)))):=by
        unfold Hid
        have h1:=HL3.out
        rw[Nat.sub_self]at h1
        simp only[maybe,List.append_nil]at h1
        rw[HFIN.out]
        exact h1
       clear hk
       go_wp2_with fail
       go_end0
       exact⟨rfl,vL,HL4.out,G3.out⟩
end W15
namespace W15
open Strs Recs M15
open M14 (Piece size sizes)
open W14 (Raw Raws rawA rawC PAt PAll PBox)
theorem lay_leaf {k:Int} {t:ByteArray} (hk:1≤k∧k≤6):LayOk (M14.leaf k t):=by
 intro w b v L r h hp hl
 have hL:L.length≤900000:=by omega
 have hp2:=hp
 unfold M14.leaf at hp2
 obtain⟨A,c,raws,rfl,k1⟩:=parts_under hp2
 rw[steps_leaf hk]
 have:k=1∨k=2∨k=3∨k=4∨k=5∨k=6:=by omega
 rcases this with rfl|rfl|rfl|rfl|rfl|rfl
 ·rw[if_pos rfl,List.append_nil]
  exact lay_empty h hp fun w h1 _=>empty_any h1 _
 ·exact lay_char h hp fun w h1 _=>char_any h1 hL _
 ·exact lay_any h hp fun w h1 _=>any_any h1 hL _
 ·exact lay_set h hp fun w h1 _=>set_any h1 hL _
 ·exact lay_begin h hp fun w h1 _=>begin_any h1 hL _
 ·exact lay_end h hp fun w h1 _=>end_any h1 hL _
theorem layOk {p:Piece} (h:M15.Good p):LayOk p:=by
 induction h with
 |leaf k t h=>exact lay_leaf h
 |many k hk ks h2 hw ih=>
  intro w b v L r h hp hl
  obtain⟨A,c,raws,rfl,k1⟩:=parts_under hp
  have IH: ∀i (hi:i<ks.length),LayOk ks[i]:=fun i hi=>ih ks[i] (List.getElem_mem hi)
  rcases hk with rfl|rfl
  ·rw[M15.size_7]at hl
   have hs: ∀q,q∈ks→ ∀a,(steps q a).length=size q:=fun q hq=>steps_len (hw q hq) (by have:=M15.size_mem hq;omega)
   rw[steps_7]
   exact lay_seq h hp fun w h1 h2=>by
    obtain⟨A',c',raws',e,k2⟩:=parts_under h2
    cases e
    exact seq_any IH hs h1 k2 (by omega)
  ·rw[steps_8]
   have hsz:=M15.size_8 no ks 0 0
   obtain⟨S,hS⟩: ∃S,size (.mk 8 no ks 0 0)=S:=⟨_,rfl⟩
   rw[hS]at hl hsz ⊢
   have hs: ∀q,q∈ks→ ∀a,(steps q a).length=size q:=fun q hq=>steps_len (hw q hq) (by have:=M15.size_mem hq;omega)
   obtain⟨n,hn⟩: ∃n,ks.length=n+1:=⟨ks.length-1,by omega⟩
   exact lay_alt h hp fun w h1 h2=>by
    obtain⟨A',c',raws',e,k2⟩:=parts_under h2
    cases e
    have hE:L.length+(sizes ks+2*n)=L.length+S:=by
     rw[hn]at hsz
     omega
    exact alt_any IH hs h1 k2 hn hE (by omega)
 |rep p m t hm ht hw ih=>
  intro w b v L r h hp hl
  obtain⟨A,c,raws,rfl,k1⟩:=parts_under hp
  rw[steps_9]
  have hsz:=M15.size_9 no p m t
  obtain⟨S,hS⟩: ∃S,size (.mk 9 no [p] m t)=S:=⟨_,rfl⟩
  have hkid:=fun hu=>M15.rep_kid (p:=p) (t:=no) (m:=m) (tp:=t) (by rw[hS];omega) hu hm.1
  rw[hS]at hl hsz ⊢
  obtain⟨M,rfl⟩: ∃M:Nat,m=(M:Int):=⟨m.toNat,by omega⟩
  unfold reps
  rw[Int.toNat_natCast]at hsz ⊢
  by_cases q:t= -1
  ·subst q
   rw[if_pos rfl]at hsz ⊢
   exact lay_repeat h hp fun w h1 h2=>by
    obtain⟨A',c',raws',e,k2⟩:=parts_under h2
    cases e
    exact rep_ever ih hw h1 k2 (by omega) (E:=L.length+S) (by omega) (by omega)
  ·rw[if_neg q]at hsz ⊢
   obtain⟨T,rfl⟩: ∃T:Nat,t=(T:Int):=⟨t.toNat,by omega⟩
   obtain⟨D,hD⟩: ∃D,M+D=T:=⟨T-M,by omega⟩
   have hTM:((T:Int)-(M:Int)).toNat=D:=by omega
   rw[hTM]at hsz ⊢
   exact lay_repeat h hp fun w h1 h2=>by
    obtain⟨A',c',raws',e,k2⟩:=parts_under h2
    cases e
    exact rep_upto ih hw h1 k2 (by omega) ⟨hD,by omega⟩ (E:=L.length+S) (by omega) (by omega) (fun hu=>hkid (by omega))
end W15
namespace W15
open Strs Recs M15
open M14 (Piece size sizes)
open W14 (Raw Raws rawA rawC PAt PAll PBox PLow below_new box_arg load_piece own_same)
open Kit (below_draws on)
theorem store_nil_func {P:Program} {w:World} {a:Addr} {m:Mode}:(store a .nilFunc m).run P w=stored P w a .nilFunc m:=run_store P w a _ m rfl
theorem store_func {P:Program} {w:World} {a:Addr} {m:Mode} {f:Fn} {x y:Array Value}:(store a (.func f x y) m).run P w=stored P w a (.func f x y) m:=run_store P w a _ m rfl
attribute [local go_sem] store_nil_func store_func
theorem new_any (w:World):Calls Tryz.prog 76 #[] w fun e w'=>e= .returned (.pointer (some ⟨w.heap.size,0,none⟩))∧Lay w' w.heap.size (.slice none 0 0) []∧Below w.heap.size w w':=by
 go_enter Tryz.func76,Tryz.ntmps76
 go_wp2_with fail
 go_ret
 exact⟨rfl,⟨heap_alloc_new w _,World.ownsRow_nil _ _ _ _⟩,below_new w _⟩
theorem Grow.below_at {w w':World} {b B:Nat} {v v':Value} {L:List Inst} (h:Grow b v v' w w') (hl:Lay w b v L) (hB:B≤b):Below B w w':=
 ⟨h.os,h.tape,h.output,h.size,fun k hk=>h.keeps hl (by omega)⟩
def Gives (w:World) (P:List Inst) (e:Ending) (w':World):Prop:= ∃v,e= .returned (.tuple #[v,.int .i64 0])∧w'.ownsRow w.heap.size 106 4 v P.length (P.flatMap insC)∧Below w.heap.size w w'
def Fails (w:World) (er:Int) (e:Ending) (w':World):Prop:=e= .returned (.tuple #[.slice none 0 0,.int .i64 er])∧Below w.heap.size w w'
theorem compile_ok {r:Raw} {p:Piece} {w:World} (hR: ∀w1,Below w.heap.size w w1→Calls Tryz.prog 75 #[.agg (rawA r)] w1 fun e w'=>e= .returned (.bool true)∧Below w1.heap.size w1 w') (hg:M15.Good p) (hs:size p≤4000) (hp:PLow w r p):Calls Tryz.prog 45 #[.agg (rawA r)] w (Gives w (prog p)):=by
 have HR:=hid hR
 have HP:=hid hp
 have HC:=hid (layOk hg)
 have HS:=hid hs
 have HLN:=hid (steps_len hg hs 0)
 clear hR hg hs hp
 go_enter Tryz.func45,Tryz.ntmps45
 go_wp2_with (first
  |(refine box_arg (r:=r) rfl (.tmp 0) rfl rfl ?_;intro w1 b1 e1 p1 l1 z1;have P1:=hid p1;have L1:=hid l1;clear e1 p1 l1 z1)
  |(refine load_piece (r:=r) rfl (.tmp 1) rfl rfl P1.out ?_))
 refine(HR.out _ L1.out).mono ?_
 rintro e w2 ⟨rfl,l2⟩
 have L2:=hid (on L1.out l2)
 have P2:=hid (P1.out.below l2)
 clear l2
 go_wp2_with fail
 refine(new_any w2).mono ?_
 rintro e w3 ⟨rfl,h3,l3⟩
 have L3:=hid (on L2.out l3)
 have P3:=hid (P2.out.below l3)
 have H3:=hid h3
 have Q3:Hid (PAt (fun k=>k<w2.heap.size) w3 r p):=HP.out.keep (fun k q=>Nat.lt_of_lt_of_le q L2.out.size) fun a q=>W14.cell_block (L3.out.block _ q)
 have HB:=hid L2.out.size
 clear h3 l3
 obtain⟨b,hb⟩: ∃b,w2.heap.size=b:=⟨_,rfl⟩
 rw[hb]at H3 Q3 HB ⊢
 clear hb
 go_wp2_with (first
  |(refine load_piece (r:=r) rfl (.tmp 1) rfl rfl P3.out ?_))
 refine(HC.out w3 b _ [] r H3.out Q3.out (by simp only[List.length_nil];have:=HS.out;omega)).mono ?_
 rintro e w4 ⟨rfl,v4,h4,g4⟩
 rw[List.nil_append]at h4
 have H4:=hid h4
 have L4:=hid (L3.out.trans (g4.below_at H3.out HB.out))
 have c0:=h4.box.c0
 clear h4 g4
 go_wp2_with (first
  |(refine slice_ins (r:=⟨7,⟨#[]⟩,0,0⟩) rfl (.tmp 16) rfl rfl ?_;intro w5 b5 e5 p5 l5 z5 o5;have P5:=hid p5;have L5:=hid l5;clear e5 p5 l5 z5 o5)
  |(refine append_ins rfl (.tmp 15) (.tmp 17) rfl rfl rfl (H4.out.below L5.out).own P5.out (by simp only[List.length_cons,List.length_nil];rw[HLN.out];have:=HS.out;omega) (Nat.le_trans H4.out.box.lt L5.out.size) ?_;intro v' w6 o6 p6;have O6:=hid o6;have P6:=hid p6;clear o6 p6))
 go_ret2
 have hg:=P6.out.grown
 refine⟨v',rfl,O6.out.mono (Nat.le_succ_of_le HB.out),(on L4.out L5.out).trans ⟨hg.os,hg.tape,hg.output,hg.size,fun k hk=>hg.block k (Nat.lt_of_lt_of_le hk (on L4.out L5.out).size) fun q=> ?_⟩⟩
 have:=(H4.out.own_gt k q.symm).1
 have:=HB.out
 omega
end W15
namespace W14
open Strs Recs M14
open Kit (below_draws on)
def PSize (p:Piece):Prop:= ∀(w:World) (r:Raw),PLow w r p→Calls Tryz.prog 44 #[.agg (rawA r)] w (SizeTo w p)
theorem wrap_nat2 {a:Int} {n:Nat} (h:a=(n:Int)) (hn:n≤9000000):wrap64 a=(n:Int):=by subst h;unfold wrap64;omega
theorem mayB_often {m t:Int} (h:Often m t):mayB m t=true:=by
 obtain⟨⟨h1,h2⟩,h3⟩:=h
 unfold mayB
 rcases h3 with h3|⟨h3,h4⟩<;>simp[*]
def SumTo (w:World) (N0:Nat) (e:Ending) (w':World):Prop:= ∃N:Nat,e= .returned (.int .i64 N)∧Hid (min 4001 N=min 4001 N0)∧Hid (N≤4000000)∧Below w.heap.size w w'
theorem psizes_any {ks:List Piece} (IH: ∀i (hi:i<ks.length),PSize ks[i]) {w:World} {A:Option Addr} {c:Nat} {raws:List Raw} (k1:Kids w A c raws ks):Calls Tryz.prog 73 #[.slice A ks.length c] w (SumTo w (sizes ks)):=by
 have HI:=hid IH
 have hr1:=k1.room.1
 have hr2:=k1.room.2
 have K1:=hid k1
 have HR:=hid (show ks.length≤c∧c≤9223372036854775807 from⟨hr1,hr2⟩)
 clear IH k1
 go_enter Tryz.func73,Tryz.ntmps73
 go_wp2_with fail
 clear hr1 hr2
 go_loopg [3,8] ks.length (fun gk s3 s8 wr=> ∃i n:Nat,s3= .int .i64 n∧s8= .int .i64 i∧Hid (n=sizes (ks.take i))∧Hid (n≤4000)∧Hid (i+gk=ks.length)∧Hid (Kids wr A c raws ks)∧Hid (Below w.heap.size w wr))
 case atStart=>exact⟨0,0,rfl,rfl,rfl,Nat.zero_le _,by unfold Hid;omega,K1,Below.refl _ _⟩
 case round=>
  obtain⟨i,n,rfl,rfl,hn,hnl,hig,K1,HB⟩:=hrel
  have hn1:=HR.out.1
  have hn2:=HR.out.2
  by_cases hi:i<ks.length
  ·have ti:(i:Int)<(ks.length:Int):=by omega
   obtain⟨g1,o1,rfl,C1⟩:=K1.out.at_ (Nat.lt_of_le_of_lt (Nat.zero_le _) hi)
   obtain⟨hr1,q1⟩:=K1.out.kid hi
   have E1:=hid (C1 i hr1)
   have Q1:=hid q1
   have HS:=hid (size_le (ks[i]'hi))
   have HT:=hid (sizes_take hi)
   have HI2:=hid hi
   obtain⟨rk,hrk⟩: ∃rk,raws[i]'hr1=rk:=⟨_,rfl⟩
   rw[hrk]at E1 Q1
   have HC:=hid (fun(w:World) (h:PLow w rk (ks[i]'hi))=>HI.out i hi w rk h)
   obtain⟨m,hm⟩: ∃m,size (ks[i]'hi)=m:=⟨_,rfl⟩
   have HM:=hid hm
   rw[hm]at HS HT
   clear C1 q1 hm hrk
   go_wp2_with (first
    |(refine load_at rfl (.tmp 10) rfl rfl (r:=rk) E1.out ?_)
    |(refine alloc_piece rfl rfl ?_;intro w3 b3 e3 p3 l3 z3)
    |(refine store_piece (r:=rk) rfl (.tmp 5) (.tmp 11) rfl rfl rfl p3 ?_;intro w4 p4 l4 z4;have L4:=hid (two_new l3 l4 e3);have P4:=hid p4;clear e3 p3 l3 z3 p4 l4 z4)
    |(refine load_piece (r:=rk) rfl (.tmp 5) rfl rfl P4.out ?_))
   refine(HC.out _ (Q1.out.below L4.out)).mono ?_
   rintro e w5 ⟨rfl,l5⟩
   rw[HM.out]
   have K5:=hid ((K1.out.below L4.out).below l5)
   have B5:=hid (HB.out.trans ((L4.out.trans (l5.mono L4.out.size)).mono HB.out.size))
   obtain⟨s,hs⟩: ∃s,n+m=s:=⟨_,rfl⟩
   have hw:Hid (wrap64 ((n:Int)+(m:Int))=(s:Int)):=wrap_nat (by rw[←hs,Int.natCast_add]) (by have:=HS.out;have:=hnl.out;omega)
   have HSS:Hid (s=sizes (ks.take (i+1))∧s≤8001):=⟨by rw[HT.out,←hn.out];exact hs.symm,by have:=HS.out;have:=hnl.out;omega⟩
   have hwi:Hid (wrap64 ((i:Int)+1)=((i+1:Nat):Int)):=by unfold Hid wrap64;omega
   have HW:=hw
   clear l5 hs hn hnl HS HT HM
   by_cases hbig:4001≤s
   ·have tb:(4001:Int)≤(s:Int):=by omega
    have HEQ:Hid (min 4001 s=min 4001 (sizes ks)):=by
     have h1:=sizes_take_le ks (i+1)
     rw[←HSS.out.1]at h1
     unfold Hid;omega
    have HSB:Hid (s≤4000000):=Nat.le_trans HSS.out.2 (by decide)
    replace hw:=hw.out
    clear hbig
    go_wp2_with fail
    go_ret
    exact⟨s,by first|rfl|exact congrArg (fun x=>Ending.returned (Value.int .i64 x)) HW.out,HEQ,HSB,B5.out⟩
   ·have tb: ¬(4001:Int)≤(s:Int):=by omega
    have HSB:Hid (s≤4000):=by unfold Hid;omega
    cases gk with
    |zero=>exact absurd hig.out (by have:=HI2.out;omega)
    |succ g=>
     replace hw:=hw.out
     replace hwi:=hwi.out
     have HWI:=hid hwi
     clear hbig
     go_wp2_with fail
     go_roundg g
     case measure=>omega
     case rel=>exact⟨i+1,s,by first|rfl|exact congrArg (Value.int .i64) HW.out,by first|rfl|exact congrArg (Value.int .i64) HWI.out,HSS.out.1,HSB,by have:=hig.out;unfold Hid;omega,K5,B5⟩
  ·have ti: ¬(i:Int)<(ks.length:Int):=by omega
   have hie:i=ks.length:=by have:=hig.out;omega
   have HE:Hid (n=sizes ks):=by have:=hn.out;rw[hie,List.take_length]at this;exact this
   have HSB:Hid (n≤4000000):=Nat.le_trans hnl.out (by decide)
   clear hie
   go_wp2_with fail
   go_ret
   exact⟨n,rfl,by rw[HE.out];rfl,HSB,HB.out⟩
theorem isRepeat_any {m t:Int} (h:Often m t) {A:Option Addr} {c:Nat} (hc:1≤c∧c≤9223372036854775807) (w:World):Calls Tryz.prog 97 #[.agg (rawA ⟨9,⟨#[]⟩,A,1,c,m,t⟩)] w fun e w'=>e= .returned (.bool true)∧Below w.heap.size w w':=by
 have hc1:=hc.1
 have hc2:=hc.2
 have HM:Hid (∀w,Calls Tryz.prog 129 #[.int .i64 m,.int .i64 t] w fun e w'=>e= .returned (.bool true)∧w'=w):=fun w=>by
  have:=mayBe_any m t w
  rw[mayB_often h]at this
  exact this
 clear hc h
 go_enter Tryz.func97,Tryz.ntmps97
 go_wp2_with (first
  |(refine box_arg (r:=⟨9,⟨#[]⟩,A,1,c,m,t⟩) rfl (.tmp 0) rfl rfl ?_;intro w1 b1 e1 p1 l1 z1;have a1:=p1.c1;have a2:=p1.c2;have a3:=p1.c3;have a4:=p1.c4;have L1:=hid l1;clear e1 p1 l1 z1;simp only at a1 a2 a3 a4))
 refine(HM.out _).mono ?_
 rintro e w2 ⟨rfl,rfl⟩
 go_wp2_with fail
 go_ret
 exact⟨rfl,L1.out⟩
theorem repeated_ever {p:Piece} {M:Nat} (hM:M≤100) (IH:PSize p) {w:World} {r:Raw} (h:PLow w r (.mk 9 ⟨#[]⟩ [p] M (-1))):Calls Tryz.prog 74 #[.agg (rawA r)] w (SumTo w (size (.mk 9 ⟨#[]⟩ [p] M (-1)))):=by
 rw[size_rep]
 obtain⟨A,c,raws,rfl,k1⟩:=h.parts
 have hr:1≤c∧c≤9223372036854775807:=k1.room
 obtain⟨g1,o1,rfl,C1⟩:=k1.at_ (Nat.lt_succ_self 0)
 obtain⟨hr1,q1⟩:=k1.kid (i:=0) (Nat.lt_succ_self 0)
 have HG:=hid (k1.2.1 _ rfl (Nat.lt_of_le_of_lt (Nat.zero_le _) hr1))
 have E1:=C1 0 hr1
 obtain⟨rk,hrk⟩: ∃rk,raws[0]=rk:=⟨_,rfl⟩
 rw[hrk]at E1 q1
 have Q1:Hid (PLow w rk p):=q1
 rw[show o1+0*5=o1 by omega]at E1
 have E1:=hid E1
 have HI:=hid (fun(w:World) (h:PLow w rk p)=>IH w rk h)
 have HO:=hid (fun w=>isRepeat_any (m:=(M:Int)) (t:=(-1)) ⟨by omega,by omega⟩ (A:=some ⟨g1,o1,none⟩) hr w)
 have hS:=size_le p
 obtain⟨K,hK⟩: ∃K,size p=K:=⟨_,rfl⟩
 have HK:=hid hK
 rw[hK]at hS ⊢
 have hMS:=mul_small (a:=M) (b:=K) (by omega) (by omega)
 obtain⟨P,hP⟩: ∃P,M*K=P:=⟨_,rfl⟩
 rw[hP]at hMS
 have hw1:Hid (wrap64 ((M:Int)*(K:Int))=(P:Int)):=wrap_nat (by rw[←Int.natCast_mul,hP]) (Nat.le_trans hMS (by decide))
 replace hP:=hid hP
 obtain⟨P2,hP2⟩: ∃P2,P+K=P2:=⟨_,rfl⟩
 have hw2:Hid (wrap64 ((P:Int)+(K:Int))=(P2:Int)):=wrap_nat (by rw[←hP2,Int.natCast_add]) (by omega)
 obtain⟨N,hN⟩: ∃N,P2+2=N:=⟨_,rfl⟩
 have hw3:Hid (wrap64 ((P2:Int)+2)=(N:Int)):=wrap_nat (by rw[←hN,Int.natCast_add];rfl) (by omega)
 have HNB:Hid (N≤4000000):=by unfold Hid;omega
 have HE:Hid (min 4001 (if(-1:Int)= -1 then M*K+K+2 else M*K+(-1-(M:Int)).toNat*(K+1))=min 4001 N):=by
  unfold Hid
  rw[if_pos rfl,hP.out,hP2,hN]
 rw[HE.out]
 have HWL:=hw3
 have HFIN:Hid (min 4001 N=min 4001 (min 4001 N)):=by unfold Hid;omega
 have hc1:=hr.1
 have hc2:=hr.2
 clear h k1 C1 q1 hrk hr1 IH hK hS hMS hr HE hM hN hP2
 go_enter Tryz.func74,Tryz.ntmps74
 go_wp2_with (first
  |(refine box_arg (r:=⟨9,⟨#[]⟩,some ⟨g1,o1,none⟩,1,c,(M:Int),(-1)⟩) rfl (.tmp 0) rfl rfl ?_;intro w1 b1 e1 p1 l1 z1;have P1:=hid p1;have L1:=hid l1;clear e1 p1 l1 z1)
  |(refine load_piece (r:=⟨9,⟨#[]⟩,some ⟨g1,o1,none⟩,1,c,(M:Int),(-1)⟩) rfl (.tmp 1) rfl rfl P1.out ?_))
 refine(HO.out _).mono ?_
 rintro e w2 ⟨rfl,l2⟩
 have PB2:=hid (P1.out.below l2)
 have L2:=hid (L1.out.trans (l2.mono L1.out.size))
 have E2:Hid (∀j,j<5→w2.cell? ⟨g1,o1+j,none⟩=(rawC rk)[j]?):=fun j hj=>(cell_block (L2.out.block g1 HG.out)).trans (E1.out j hj)
 have Q2:=hid (Q1.out.below L2.out)
 have a2:=PB2.out.c2
 simp only at a2
 clear l2
 go_wp2_with (first|(refine load_at rfl (.tmp 10) rfl rfl (r:=rk) E2.out ?_))
 refine(HI.out _ Q2.out).mono ?_
 rintro e w3 ⟨rfl,l3⟩
 rw[HK.out]
 have PB3:=hid (PB2.out.below l3)
 have L3:=hid (L2.out.trans (l3.mono L2.out.size))
 have a3:=PB3.out.c3
 have a4:=PB3.out.c4
 simp only at a3 a4
 replace hw1:=hw1.out
 replace hw2:=hw2.out
 replace hw3:=hw3.out
 clear l3
 go_wp2_with fail
 go_ret
 exact⟨N,by first|rfl|exact congrArg (fun x=>Ending.returned (Value.int .i64 x)) HWL.out,HFIN.out,HNB.out,L3.out⟩
theorem repeated_upto {p:Piece} {M T:Nat} (hM:M≤100) (hT:M≤T∧T≤100) (IH:PSize p) {w:World} {r:Raw} (h:PLow w r (.mk 9 ⟨#[]⟩ [p] M (T:Int))):Calls Tryz.prog 74 #[.agg (rawA r)] w (SumTo w (size (.mk 9 ⟨#[]⟩ [p] M (T:Int)))):=by
 rw[size_rep]
 obtain⟨A,c,raws,rfl,k1⟩:=h.parts
 have hr:1≤c∧c≤9223372036854775807:=k1.room
 obtain⟨g1,o1,rfl,C1⟩:=k1.at_ (Nat.lt_succ_self 0)
 obtain⟨hr1,q1⟩:=k1.kid (i:=0) (Nat.lt_succ_self 0)
 have HG:=hid (k1.2.1 _ rfl (Nat.lt_of_le_of_lt (Nat.zero_le _) hr1))
 have E1:=C1 0 hr1
 obtain⟨rk,hrk⟩: ∃rk,raws[0]=rk:=⟨_,rfl⟩
 rw[hrk]at E1 q1
 have Q1:Hid (PLow w rk p):=q1
 rw[show o1+0*5=o1 by omega]at E1
 have E1:=hid E1
 have HI:=hid (fun(w:World) (h:PLow w rk p)=>IH w rk h)
 have HO:=hid (fun w=>isRepeat_any (m:=(M:Int)) (t:=(T:Int)) ⟨by omega,by omega⟩ (A:=some ⟨g1,o1,none⟩) hr w)
 have hS:=size_le p
 obtain⟨K,hK⟩: ∃K,size p=K:=⟨_,rfl⟩
 have HK:=hid hK
 rw[hK]at hS ⊢
 have hMS:=mul_small (a:=M) (b:=K) (by omega) (by omega)
 obtain⟨P,hP⟩: ∃P,M*K=P:=⟨_,rfl⟩
 rw[hP]at hMS
 have hw1:Hid (wrap64 ((M:Int)*(K:Int))=(P:Int)):=wrap_nat (by rw[←Int.natCast_mul,hP]) (Nat.le_trans hMS (by decide))
 replace hP:=hid hP
 obtain⟨D,hD⟩: ∃D,T-M=D:=⟨_,rfl⟩
 have hw2:Hid (wrap64 ((T:Int)-(M:Int))=(D:Int)):=wrap_nat (by omega) (by omega)
 obtain⟨K2,hK2⟩: ∃K2,K+1=K2:=⟨_,rfl⟩
 have hw3:Hid (wrap64 ((K:Int)+1)=(K2:Int)):=wrap_nat (by omega) (by omega)
 have hDS:=mul_small (a:=D) (b:=K2) (by omega) (by omega)
 obtain⟨G,hG⟩: ∃G,D*K2=G:=⟨_,rfl⟩
 rw[hG]at hDS
 have hw4:Hid (wrap64 ((D:Int)*(K2:Int))=(G:Int)):=wrap_nat (by rw[←Int.natCast_mul,hG]) (Nat.le_trans hDS (by decide))
 replace hG:=hid hG
 obtain⟨N,hN⟩: ∃N,P+G=N:=⟨_,rfl⟩
 have hw5:Hid (wrap64 ((P:Int)+(G:Int))=(N:Int)):=wrap_nat (by rw[←hN,Int.natCast_add]) (by omega)
 have HNB:Hid (N≤4000000):=by unfold Hid;omega
 have HE:Hid (min 4001 (if(T:Int)= -1 then M*K+K+2 else M*K+((T:Int)-(M:Int)).toNat*(K+1))=min 4001 N):=by
  unfold Hid
  rw[if_neg (by omega),show((T:Int)-(M:Int)).toNat=D by omega,hP.out,hK2,hG.out,hN]
 have x0:Hid (((T:Int)== -1)=false):=by unfold Hid;simp
 rw[HE.out]
 have HWL:=hw5
 have HFIN:Hid (min 4001 N=min 4001 (min 4001 N)):=by unfold Hid;omega
 have hc1:=hr.1
 have hc2:=hr.2
 clear h k1 C1 q1 hrk hr1 IH hK hS hMS hr HE hM hN hT hD hK2 hDS
 go_enter Tryz.func74,Tryz.ntmps74
 go_wp2_with (first
  |(refine box_arg (r:=⟨9,⟨#[]⟩,some ⟨g1,o1,none⟩,1,c,(M:Int),(T:Int)⟩) rfl (.tmp 0) rfl rfl ?_;intro w1 b1 e1 p1 l1 z1;have P1:=hid p1;have L1:=hid l1;clear e1 p1 l1 z1)
  |(refine load_piece (r:=⟨9,⟨#[]⟩,some ⟨g1,o1,none⟩,1,c,(M:Int),(T:Int)⟩) rfl (.tmp 1) rfl rfl P1.out ?_))
 refine(HO.out _).mono ?_
 rintro e w2 ⟨rfl,l2⟩
 have PB2:=hid (P1.out.below l2)
 have L2:=hid (L1.out.trans (l2.mono L1.out.size))
 have E2:Hid (∀j,j<5→w2.cell? ⟨g1,o1+j,none⟩=(rawC rk)[j]?):=fun j hj=>(cell_block (L2.out.block g1 HG.out)).trans (E1.out j hj)
 have Q2:=hid (Q1.out.below L2.out)
 have a2:=PB2.out.c2
 simp only at a2
 clear l2
 go_wp2_with (first|(refine load_at rfl (.tmp 10) rfl rfl (r:=rk) E2.out ?_))
 refine(HI.out _ Q2.out).mono ?_
 rintro e w3 ⟨rfl,l3⟩
 rw[HK.out]
 have PB3:=hid (PB2.out.below l3)
 have L3:=hid (L2.out.trans (l3.mono L2.out.size))
 have a3:=PB3.out.c3
 have a4:=PB3.out.c4
 simp only at a3 a4
 replace hw1:=hw1.out
 replace hw2:=hw2.out
 replace hw3:=hw3.out
 replace hw4:=hw4.out
 replace hw5:=hw5.out
 replace x0:=x0.out
 clear l3
 go_wp2_with fail
 go_ret
 exact⟨N,by first|rfl|exact congrArg (fun x=>Ending.returned (Value.int .i64 x)) HWL.out,HFIN.out,HNB.out,L3.out⟩
end W14
end Go.Proofs.YtfgegjinhkgpbaaGreatDoor
