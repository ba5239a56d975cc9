/-
  Texts joined, in build order, each with its own comment and its own conditions: W14RefTimes.
-/
import Derived.Test.YtfgegjinhkgpbaaGreatDoorJ20
import Derived.Deep.Cut
namespace Go.Proofs.YtfgegjinhkgpbaaGreatDoor
set_option maxHeartbeats 4000000
set_option maxRecDepth 100000
open Go.RowKit
open Lib (hid)
namespace W14
open Strs Al Cj
open BU (Beside)
open Kit (below_draws on)
def Hg (S:List UInt8) (at_:Nat):Int×Int×Int×Nat:=
 if(Am S (at_+1)).1<0 then Pb
 else if S.getD (Am S (at_+1)).2 0=44 then
  (if S.getD (Am S ((Am S (at_+1)).2+1)).2 0=125 then range (Am S (at_+1)).1 (Am S ((Am S (at_+1)).2+1)).1 ((Am S ((Am S (at_+1)).2+1)).2+1-at_)else Pb)
 else if S.getD (Am S (at_+1)).2 0=125 then range (Am S (at_+1)).1 (Am S (at_+1)).1 ((Am S (at_+1)).2+1-at_)else Pb
theorem JV: ∀l:List UInt8,l.dropWhile Ch=l.drop (l.takeWhile Ch).length
 | []=>rfl
 |c::l=>by
  cases h:Ch c with
  |true=>rw[List.dropWhile_cons_of_pos h,List.takeWhile_cons_of_pos h,List.length_cons,List.drop_succ_cons,JV l]
  |false=>rw[List.dropWhile_cons_of_neg (by rw[h];simp),List.takeWhile_cons_of_neg (by rw[h];simp)];rfl
theorem KG {S:List UInt8} {j:Nat} (h:isNum ((S.drop j).takeWhile Ch)=true):Am S j=((val ((S.drop j).takeWhile Ch):Int),j+((S.drop j).takeWhile Ch).length):=by unfold Am;rw[h,if_pos rfl]
theorem Ls {S:List UInt8} {j:Nat} (h:isNum ((S.drop j).takeWhile Ch)=false):Am S j=(-1,j):=by unfold Am;rw[h,if_neg (by simp)]
theorem drop_cons {S:List UInt8} {j:Nat} {c:UInt8} {r:List UInt8} (h:S.drop j=c::r):S.getD j 0=c/\S.drop (j+1)=r:=by
 constructor
 ·have:=Fs S j 0
  rw[h]at this
  simpa using this.symm
 rw[<-List.drop_drop,h];rfl
theorem drop_nil {S:List UInt8} {j:Nat} (h:S.drop j= []):S.getD j 0=0:=by
 have:=Fs S j 0
 rw[h]at this
 simpa using this.symm
theorem Uj (S:List UInt8) (j:Nat):(S.drop j).headD 0=S.getD j 0:=by
 cases h:S.drop j with
 |nil=>rw[drop_nil h];rfl
 |cons c r=>rw[(drop_cons h).1];rfl
theorem fB (S:List UInt8) (at_:Nat):Hg S at_=Cr (S.drop (at_+1)):=by
 unfold Hg Cr
 cases hn:isNum ((S.drop (at_+1)).takeWhile Ch)with
 |false=>rw[KM hn,Ls hn];rfl
 |true=>
  rw[Ey hn,KG hn,if_neg (by simp only;omega)]
  have hd:(S.drop (at_+1)).dropWhile Ch=S.drop (at_+1+((S.drop (at_+1)).takeWhile Ch).length):=by rw[JV,List.drop_drop]
  generalize ((S.drop (at_+1)).takeWhile Ch).length=k at*
  generalize (val ((S.drop (at_+1)).takeWhile Ch))=m at*
  simp only
  cases hr:S.drop (at_+1+k)with
  |nil=>
   rw[hd,hr,drop_nil hr];rfl
  |cons c r=>
   obtain⟨h1,h2⟩:=drop_cons hr
   rw[hd,hr,h1]
   simp only
   by_cases c1:c=125
   ·subst c1
    rw[if_neg (by decide),if_pos rfl,if_pos rfl,show at_+1+k+1-at_=k+2 by omega]
   rw[if_neg c1,if_neg c1]
   by_cases c2:c=44
   ·rw[if_pos c2,if_pos c2,<-h2]
    cases hn2:isNum ((S.drop (at_+1+k+1)).takeWhile Ch)with
    |true=>
     have hne: ¬(S.drop (at_+1+k+1)).takeWhile Ch= []:=fun q=>by rw[q]at hn2;simp[isNum]at hn2
     rw[if_neg hne,Ey hn2,KG hn2,JV,List.drop_drop,Uj]
     simp only
     rw[show at_+1+k+1+((S.drop (at_+1+k+1)).takeWhile Ch).length+1-at_=k+((S.drop (at_+1+k+1)).takeWhile Ch).length+3 by omega]
    |false=>
     rw[Ls hn2,KM hn2,Uj]
     simp only
     rw[show at_+1+k+1+1-at_=k+3 by omega]
     by_cases hne:(S.drop (at_+1+k+1)).takeWhile Ch= []
     ·rw[if_pos hne]
     rw[if_neg hne,if_neg]
     intro q
     cases hq:S.drop (at_+1+k+1)with
     |nil=>rw[hq]at hne;exact hne rfl
     |cons d r2=>
      rw[(drop_cons hq).1]at q
      subst q
      rw[hq]at hne
      exact hne rfl
   rw[if_neg c2,if_neg c2]
theorem Ai (S:List UInt8) (j:Nat) (hj:j<=S.length): -1<=(Am S j).1/\(Am S j).1<=999/\j<=(Am S j).2/\(Am S j).2<=S.length:=by
 cases hn:isNum ((S.drop j).takeWhile Ch)with
 |false=>rw[Ls hn];exact⟨by simp only;omega,by simp only;omega,by simp only;omega,hj⟩
 |true=>
  rw[KG hn]
  unfold isNum at hn
  simp only[Bool.and_eq_true,decide_eq_true_eq]at hn
  have h1:=Ui hn.2.2 hn.2.1
  have h2:=(List.takeWhile_sublist (l:=S.drop j) Ch).length_le
  rw[List.length_drop]at h2
  exact⟨by simp only;omega,by simp only;omega,by simp only;omega,by simp only;omega⟩
def FP (lo:Nat) (w:World) (g:Dg) (e:Ending) (w':World):Prop:=
 Below w.heap.size w w'/\match g with
 | .ok p to=> ∃r,e= .returned (.agg (IV r to 0 0))/\DF (In lo w'.heap.size) w' r p
 | .bad b er=>er≠0/\ ∃t,e= .returned (.agg (IV Af t er b))
theorem Cy {ops:Array Oper} {rest:List Oper} {o:Oper} {a:Act} {w:World} {Q:Exit->Act->World->Prop} (hgd:o.guard=none) (x:Operand) (ho:o.op= .box 56 x) {r:Raw} (hx:a.eval x= .agg (Ak r))
    (h: ∀w' b,w.heap.size=b->Ad w' b r->Below w.heap.size w w'->w'.heap.size=w.heap.size+1->wpList Tryz.prog ops Q rest (a.put o.dst (.pointer (some ⟨b,0,none⟩))) w'):wpList Tryz.prog ops Q (o::rest) a w:=
 wpList_plain hgd fun _ hK=>by
  unfold Oper.wp execOp
  simp only[ho,hx,Instr.box,newVar,newRow,Sem.run_bind,Sem.run_pure]
  exact hK _ _ (h _ _ rfl (heap_alloc_new w _) (AZ w _) (World.size_alloc w _))
section
variable {w:World} {s:ByteArray} {at_ lo i j:Nat} {m t:Int} {r:Raw} {p:Piece}
theorem TL (hat:at_<s.size) (hs:s.size<=900) (hD1:Am s.data.toList (at_+1)=(m,i)) (hm:m<0):
    Calls Tryz.prog 137 #[.string s,.int .i64 at_,.agg (Ak r)] w (FP lo w (.bad at_ 3)):=by
 have hlen:s.data.toList.length=s.size:=(Lib.size_eq s).symm
 have hb1:=Ai s.data.toList (at_+1) (by omega)
 have GQ:Hid (∀w,Calls Tryz.prog 156 #[.string s,.int .i64 ((at_+1:Nat):Int)] w fun e w'=>e= .returned (.tuple #[.int .i64 m,.int .i64 i])/\ ∃n,w'=w.drewN n):=fun w=>by
  have:=Ar s (at_+1) (by omega) hs w
  rw[hD1]at this
  exact this
 rw[hD1]at hb1
 have hw1:wrap64 ((at_:Int)+1)=((at_+1:Nat):Int):=by unfold wrap64;omega
 clear hlen hb1 hD1
 go_enter Tryz.func137,Tryz.ntmps137
 go_wp2_with (first
  |(refine Cy rfl (.tmp 2) rfl (r:=r) rfl ?_;intro w1 b1 e1 p1 l1 z1)
  |(refine Ab rfl rfl ?_;intro w2 b2 e2 p2 l2 z2))
 have P2:=hid (p1.below l2)
 have G2:=hid p2
 have L2:=hid (l1.trans (l2.mono l1.size))
 have hwb:w.heap.size<=b1/\w.heap.size<=b2/\b1≠b2:=by omega
 have NF:=hid hwb
 clear e1 p1 l1 z1 e2 p2 l2 z2 hwb
 refine(GQ.out _).mono ?_
 rintro e w3 ⟨rfl,n3,rfl⟩
 have P3:Hid (Ad (w2.drewN n3) b1 r):=P2
 have G3:Hid (Cq (w2.drewN n3) b2 Af 0 0 0):=G2
 have L3:Hid (Below w.heap.size w (w2.drewN n3)):=L2.out.trans ((below_draws w2 n3).mono L2.out.size)
 clear P2 G2 L2
 generalize w2.drewN n3=w3 at*
 go_wp2_with fail
 refine(Bj at_ 3 (by decide) _).mono ?_
 rintro e w5 ⟨l5,he,tq,rfl⟩
 have G5:=hid (G3.out.below l5)
 have L5:=hid (L3.out.trans (l5.mono L3.out.size))
 clear l5
 go_wp2_with (first
  |(refine AQ (r:=Af) (to:=tq) rfl (.tmp 6) (.tmp 26) rfl rfl rfl G5.out ?_;intro w6 p6 l6 z6))
 exact Av rfl rfl p6 rfl ⟨L5.out.trans (l6.below L5.out.size NF.out.2.1),by decide,tq,rfl⟩
theorem Ve (hat:at_<s.size) (hs:s.size<=900) (hD1:Am s.data.toList (at_+1)=(m,i)) (hm: ¬m<0) (hi:i=s.size):
    Calls Tryz.prog 137 #[.string s,.int .i64 at_,.agg (Ak r)] w (FP lo w (.bad at_ 3)):=by
 have hlen:s.data.toList.length=s.size:=(Lib.size_eq s).symm
 have hb1:=Ai s.data.toList (at_+1) (by omega)
 have GQ:Hid (∀w,Calls Tryz.prog 156 #[.string s,.int .i64 ((at_+1:Nat):Int)] w fun e w'=>e= .returned (.tuple #[.int .i64 m,.int .i64 i])/\ ∃n,w'=w.drewN n):=fun w=>by
  have:=Ar s (at_+1) (by omega) hs w
  rw[hD1]at this
  exact this
 rw[hD1]at hb1
 have hw1:wrap64 ((at_:Int)+1)=((at_+1:Nat):Int):=by unfold wrap64;omega
 have ti:=Hw hi
 clear hlen hb1 hD1 hi
 go_enter Tryz.func137,Tryz.ntmps137
 go_wp2_with (first
  |(refine Cy rfl (.tmp 2) rfl (r:=r) rfl ?_;intro w1 b1 e1 p1 l1 z1)
  |(refine Ab rfl rfl ?_;intro w2 b2 e2 p2 l2 z2))
 have P2:=hid (p1.below l2)
 have G2:=hid p2
 have L2:=hid (l1.trans (l2.mono l1.size))
 have hwb:w.heap.size<=b1/\w.heap.size<=b2/\b1≠b2:=by omega
 have NF:=hid hwb
 clear e1 p1 l1 z1 e2 p2 l2 z2 hwb
 refine(GQ.out _).mono ?_
 rintro e w3 ⟨rfl,n3,rfl⟩
 have P3:Hid (Ad (w2.drewN n3) b1 r):=P2
 have G3:Hid (Cq (w2.drewN n3) b2 Af 0 0 0):=G2
 have L3:Hid (Below w.heap.size w (w2.drewN n3)):=L2.out.trans ((below_draws w2 n3).mono L2.out.size)
 clear P2 G2 L2
 generalize w2.drewN n3=w3 at*
 go_wp2_with fail
 refine(Bj at_ 3 (by decide) _).mono ?_
 rintro e w5 ⟨l5,he,tq,rfl⟩
 have G5:=hid (G3.out.below l5)
 have L5:=hid (L3.out.trans (l5.mono L3.out.size))
 clear l5
 go_wp2_with (first
  |(refine AQ (r:=Af) (to:=tq) rfl (.tmp 6) (.tmp 26) rfl rfl rfl G5.out ?_;intro w6 p6 l6 z6))
 exact Av rfl rfl p6 rfl ⟨L5.out.trans (l6.below L5.out.size NF.out.2.1),by decide,tq,rfl⟩
theorem Ru (hat:at_<s.size) (hs:s.size<=900) (hD1:Am s.data.toList (at_+1)=(m,i)) (hm: ¬m<0) (hi:i<s.size) (De: ¬s[i]=44) (Bf: ¬s[i]=125):
    Calls Tryz.prog 137 #[.string s,.int .i64 at_,.agg (Ak r)] w (FP lo w (.bad at_ 3)):=by
 have hlen:s.data.toList.length=s.size:=(Lib.size_eq s).symm
 have hb1:=Ai s.data.toList (at_+1) (by omega)
 have GQ:Hid (∀w,Calls Tryz.prog 156 #[.string s,.int .i64 ((at_+1:Nat):Int)] w fun e w'=>e= .returned (.tuple #[.int .i64 m,.int .i64 i])/\ ∃n,w'=w.drewN n):=fun w=>by
  have:=Ar s (at_+1) (by omega) hs w
  rw[hD1]at this
  exact this
 rw[hD1]at hb1
 have hw1:wrap64 ((at_:Int)+1)=((at_+1:Nat):Int):=by unfold wrap64;omega
 have hi2:(i:Int)<(s.size:Int):=by omega
 have ti:=CY (show¬i=s.size by omega)
 have t44:((s[i].toNat:Int)==44)=false:=Ce De
 have t125:((s[i].toNat:Int)==125)=false:=Ce Bf
 clear hlen hb1 hD1 De Bf
 go_enter Tryz.func137,Tryz.ntmps137
 go_wp2_with (first
  |(refine Cy rfl (.tmp 2) rfl (r:=r) rfl ?_;intro w1 b1 e1 p1 l1 z1)
  |(refine Ab rfl rfl ?_;intro w2 b2 e2 p2 l2 z2))
 have P2:=hid (p1.below l2)
 have G2:=hid p2
 have L2:=hid (l1.trans (l2.mono l1.size))
 have hwb:w.heap.size<=b1/\w.heap.size<=b2/\b1≠b2:=by omega
 have NF:=hid hwb
 clear e1 p1 l1 z1 e2 p2 l2 z2 hwb
 refine(GQ.out _).mono ?_
 rintro e w3 ⟨rfl,n3,rfl⟩
 have P3:Hid (Ad (w2.drewN n3) b1 r):=P2
 have G3:Hid (Cq (w2.drewN n3) b2 Af 0 0 0):=G2
 have L3:Hid (Below w.heap.size w (w2.drewN n3)):=L2.out.trans ((below_draws w2 n3).mono L2.out.size)
 clear P2 G2 L2
 generalize w2.drewN n3=w3 at*
 go_wp2_with fail
 refine(Bj at_ 3 (by decide) _).mono ?_
 rintro e w5 ⟨l5,he,tq,rfl⟩
 have G5:=hid (G3.out.below l5)
 have L5:=hid (L3.out.trans (l5.mono L3.out.size))
 clear l5
 go_wp2_with (first
  |(refine AQ (r:=Af) (to:=tq) rfl (.tmp 6) (.tmp 66) rfl rfl rfl G5.out ?_;intro w6 p6 l6 z6))
 exact Av rfl rfl p6 rfl ⟨L5.out.trans (l6.below L5.out.size NF.out.2.1),by decide,tq,rfl⟩
theorem PM (hat:at_<s.size) (hs:s.size<=900) (hD1:Am s.data.toList (at_+1)=(m,i)) (hm: ¬m<0) (hi:i<s.size) (De: ¬s[i]=44) (Bf:s[i]=125) (hr:m>100):
    Calls Tryz.prog 137 #[.string s,.int .i64 at_,.agg (Ak r)] w (FP lo w (.bad at_ 4)):=by
 have hlen:s.data.toList.length=s.size:=(Lib.size_eq s).symm
 have hb1:=Ai s.data.toList (at_+1) (by omega)
 have GQ:Hid (∀w,Calls Tryz.prog 156 #[.string s,.int .i64 ((at_+1:Nat):Int)] w fun e w'=>e= .returned (.tuple #[.int .i64 m,.int .i64 i])/\ ∃n,w'=w.drewN n):=fun w=>by
  have:=Ar s (at_+1) (by omega) hs w
  rw[hD1]at this
  exact this
 rw[hD1]at hb1
 have hw1:wrap64 ((at_:Int)+1)=((at_+1:Nat):Int):=by unfold wrap64;omega
 have hi2:(i:Int)<(s.size:Int):=by omega
 have ti:=CY (show¬i=s.size by omega)
 have t44:((s[i].toNat:Int)==44)=false:=Ce De
 have t125:((s[i].toNat:Int)==125)=true:=FU Bf
 clear hlen hb1 hD1 De Bf
 go_enter Tryz.func137,Tryz.ntmps137
 go_wp2_with (first
  |(refine Cy rfl (.tmp 2) rfl (r:=r) rfl ?_;intro w1 b1 e1 p1 l1 z1)
  |(refine Ab rfl rfl ?_;intro w2 b2 e2 p2 l2 z2))
 have P2:=hid (p1.below l2)
 have G2:=hid p2
 have L2:=hid (l1.trans (l2.mono l1.size))
 have hwb:w.heap.size<=b1/\w.heap.size<=b2/\b1≠b2:=by omega
 have NF:=hid hwb
 clear e1 p1 l1 z1 e2 p2 l2 z2 hwb
 refine(GQ.out _).mono ?_
 rintro e w3 ⟨rfl,n3,rfl⟩
 have P3:Hid (Ad (w2.drewN n3) b1 r):=P2
 have G3:Hid (Cq (w2.drewN n3) b2 Af 0 0 0):=G2
 have L3:Hid (Below w.heap.size w (w2.drewN n3)):=L2.out.trans ((below_draws w2 n3).mono L2.out.size)
 clear P2 G2 L2
 generalize w2.drewN n3=w3 at*
 go_wp2_with fail
 refine(Bj at_ 4 (by decide) _).mono ?_
 rintro e w5 ⟨l5,he,tq,rfl⟩
 have G5:=hid (G3.out.below l5)
 have L5:=hid (L3.out.trans (l5.mono L3.out.size))
 clear l5
 go_wp2_with (first
  |(refine AQ (r:=Af) (to:=tq) rfl (.tmp 6) (.tmp 83) rfl rfl rfl G5.out ?_;intro w6 p6 l6 z6))
 exact Av rfl rfl p6 rfl ⟨L5.out.trans (l6.below L5.out.size NF.out.2.1),by decide,tq,rfl⟩
theorem Vf (hat:at_<s.size) (hs:s.size<=900) (hD1:Am s.data.toList (at_+1)=(m,i)) (eZ:Hid (lo<=w.heap.size)) (HP:Hid (DF (In lo w.heap.size) w r p)) (hm: ¬m<0) (hi:i<s.size) (De: ¬s[i]=44) (Bf:s[i]=125) (hr: ¬m>100):
    Calls Tryz.prog 137 #[.string s,.int .i64 at_,.agg (Ak r)] w (FP lo w (.ok (.mk 9 ⟨#[]⟩ [p] m m) (i+1))):=by
 have hlen:s.data.toList.length=s.size:=(Lib.size_eq s).symm
 have hb1:=Ai s.data.toList (at_+1) (by omega)
 have GQ:Hid (∀w,Calls Tryz.prog 156 #[.string s,.int .i64 ((at_+1:Nat):Int)] w fun e w'=>e= .returned (.tuple #[.int .i64 m,.int .i64 i])/\ ∃n,w'=w.drewN n):=fun w=>by
  have:=Ar s (at_+1) (by omega) hs w
  rw[hD1]at this
  exact this
 rw[hD1]at hb1
 have hw1:wrap64 ((at_:Int)+1)=((at_+1:Nat):Int):=by unfold wrap64;omega
 have hi2:(i:Int)<(s.size:Int):=by omega
 have ti:=CY (show¬i=s.size by omega)
 have t44:((s[i].toNat:Int)==44)=false:=Ce De
 have t125:((s[i].toNat:Int)==125)=true:=FU Bf
 clear hlen hb1 hD1 De Bf
 go_enter Tryz.func137,Tryz.ntmps137
 go_wp2_with (first
  |(refine Cy rfl (.tmp 2) rfl (r:=r) rfl ?_;intro w1 b1 e1 p1 l1 z1)
  |(refine Ab rfl rfl ?_;intro w2 b2 e2 p2 l2 z2))
 have P2:=hid (p1.below l2)
 have G2:=hid p2
 have L2:=hid (l1.trans (l2.mono l1.size))
 have hwb:w.heap.size<=b1/\w.heap.size<=b2/\b1≠b2:=by omega
 have NF:=hid hwb
 clear e1 p1 l1 z1 e2 p2 l2 z2 hwb
 refine(GQ.out _).mono ?_
 rintro e w3 ⟨rfl,n3,rfl⟩
 have P3:Hid (Ad (w2.drewN n3) b1 r):=P2
 have G3:Hid (Cq (w2.drewN n3) b2 Af 0 0 0):=G2
 have L3:Hid (Below w.heap.size w (w2.drewN n3)):=L2.out.trans ((below_draws w2 n3).mono L2.out.size)
 clear P2 G2 L2
 generalize w2.drewN n3=w3 at*
 have Jf:wrap64 ((i:Int)+1)=((i+1:Nat):Int):=by unfold wrap64;omega
 go_upto_region 13 with fail
 go_wp2_with (first
  |(refine AU rfl (.tmp 5) rfl rfl P3.out ?_)
  |(refine B_ rfl (.tmp 84) rfl (r:=r) rfl ?_;intro w6 b3 e6 r6 l6 z6;have G6:=G3.out.below l6)
  |(refine Cc (r:=⟨9,⟨#[]⟩,some ⟨b3,0,none⟩,1,1,m,m⟩) rfl (.tmp 88) (.tmp 90) rfl rfl rfl ?_)
  |(refine AQ (r:=⟨9,⟨#[]⟩,some ⟨b3,0,none⟩,1,1,m,m⟩) rfl (.tmp 6) (.tmp 91) rfl rfl rfl G6 ?_;intro w7 p7 l7 z7))
 have hwb:=NF.out
 have L6:=L3.out.trans (l6.mono L3.out.size)
 have hz:=L3.out.size
 have vz:=G3.out.lt
 have hb3:b3<w6.heap.size:=by rw[z6];omega
 have Zl:b3≠b2:=by omega
 refine Av rfl rfl p7 rfl ⟨L6.trans (l7.below L6.size hwb.2.1),_,rfl,.mk _ _ _ _ _ _ _ [r] [p] w7.heap.size ?_ ?_ rfl ?_⟩
 ·have r7:Ea w6.heap.size w7 (.slice (some ⟨b3,0,none⟩) 1 1) [r]:=EF r6 fun ad e _ q hq=>by
    cases e
    exact AO (l7.block _ (by rw[hq];exact hb3) (by rw[hq];exact Zl))
  rw[z7];exact r7
 ·intro ad e _
  cases e
  exact⟨Nat.le_trans eZ.out (by rw[<-e6];exact hz),by rw[z7];exact hb3⟩
 intro k i1 i2
 have i0:k=0:=by simp at i1;omega
 subst i0
 exact HP.out.CP (L6.trans (l7.below L6.size hwb.2.1))
theorem OC (hat:at_<s.size) (hs:s.size<=900) (hD1:Am s.data.toList (at_+1)=(m,i)) (hm: ¬m<0) (hi:i<s.size) (De:s[i]=44) (hD2:Am s.data.toList (i+1)=(t,j)) (ht:t<0) (hj:j=s.size):
    Calls Tryz.prog 137 #[.string s,.int .i64 at_,.agg (Ak r)] w (FP lo w (.bad at_ 3)):=by
 have hlen:s.data.toList.length=s.size:=(Lib.size_eq s).symm
 have hb1:=Ai s.data.toList (at_+1) (by omega)
 have GQ:Hid (∀w,Calls Tryz.prog 156 #[.string s,.int .i64 ((at_+1:Nat):Int)] w fun e w'=>e= .returned (.tuple #[.int .i64 m,.int .i64 i])/\ ∃n,w'=w.drewN n):=fun w=>by
  have:=Ar s (at_+1) (by omega) hs w
  rw[hD1]at this
  exact this
 rw[hD1]at hb1
 have hw1:wrap64 ((at_:Int)+1)=((at_+1:Nat):Int):=by unfold wrap64;omega
 have hi2:(i:Int)<(s.size:Int):=by omega
 have ti:=CY (show¬i=s.size by omega)
 have t44:((s[i].toNat:Int)==44)=true:=FU De
 have hb2:=Ai s.data.toList (i+1) (by omega)
 have Ii:Hid (∀w,Calls Tryz.prog 156 #[.string s,.int .i64 ((i+1:Nat):Int)] w fun e w'=>e= .returned (.tuple #[.int .i64 t,.int .i64 j])/\ ∃n,w'=w.drewN n):=fun w=>by
  have:=Ar s (i+1) (by omega) hs w
  rw[hD2]at this
  exact this
 rw[hD2]at hb2
 have hw2:wrap64 ((i:Int)+1)=((i+1:Nat):Int):=by unfold wrap64;omega
 have tj:=Hw hj
 clear hlen hb1 hD1 De hb2 hD2 hj
 go_enter Tryz.func137,Tryz.ntmps137
 go_wp2_with (first
  |(refine Cy rfl (.tmp 2) rfl (r:=r) rfl ?_;intro w1 b1 e1 p1 l1 z1)
  |(refine Ab rfl rfl ?_;intro w2 b2 e2 p2 l2 z2))
 have P2:=hid (p1.below l2)
 have G2:=hid p2
 have L2:=hid (l1.trans (l2.mono l1.size))
 have hwb:w.heap.size<=b1/\w.heap.size<=b2/\b1≠b2:=by omega
 have NF:=hid hwb
 clear e1 p1 l1 z1 e2 p2 l2 z2 hwb
 refine(GQ.out _).mono ?_
 rintro e w3 ⟨rfl,n3,rfl⟩
 have P3:Hid (Ad (w2.drewN n3) b1 r):=P2
 have G3:Hid (Cq (w2.drewN n3) b2 Af 0 0 0):=G2
 have L3:Hid (Below w.heap.size w (w2.drewN n3)):=L2.out.trans ((below_draws w2 n3).mono L2.out.size)
 clear P2 G2 L2
 generalize w2.drewN n3=w3 at*
 go_wp2_with fail
 refine(Ii.out _).mono ?_
 rintro e w4 ⟨rfl,n4,rfl⟩
 have P4:Hid (Ad (w3.drewN n4) b1 r):=P3
 have G4:Hid (Cq (w3.drewN n4) b2 Af 0 0 0):=G3
 have L4:Hid (Below w.heap.size w (w3.drewN n4)):=L3.out.trans ((below_draws w3 n4).mono L3.out.size)
 clear P3 G3 L3
 generalize w3.drewN n4=w4 at*
 go_wp2_with fail
 refine(Bj at_ 3 (by decide) _).mono ?_
 rintro e w5 ⟨l5,he,tq,rfl⟩
 have G5:=hid (G4.out.below l5)
 have L5:=hid (L4.out.trans (l5.mono L4.out.size))
 clear l5
 go_wp2_with (first
  |(refine AQ (r:=Af) (to:=tq) rfl (.tmp 6) (.tmp 54) rfl rfl rfl G5.out ?_;intro w6 p6 l6 z6))
 exact Av rfl rfl p6 rfl ⟨L5.out.trans (l6.below L5.out.size NF.out.2.1),by decide,tq,rfl⟩
theorem PO (hat:at_<s.size) (hs:s.size<=900) (hD1:Am s.data.toList (at_+1)=(m,i)) (hm: ¬m<0) (hi:i<s.size) (De:s[i]=44) (hD2:Am s.data.toList (i+1)=(t,j)) (ht: ¬t<0) (hj:j=s.size):
    Calls Tryz.prog 137 #[.string s,.int .i64 at_,.agg (Ak r)] w (FP lo w (.bad at_ 3)):=by
 have hlen:s.data.toList.length=s.size:=(Lib.size_eq s).symm
 have hb1:=Ai s.data.toList (at_+1) (by omega)
 have GQ:Hid (∀w,Calls Tryz.prog 156 #[.string s,.int .i64 ((at_+1:Nat):Int)] w fun e w'=>e= .returned (.tuple #[.int .i64 m,.int .i64 i])/\ ∃n,w'=w.drewN n):=fun w=>by
  have:=Ar s (at_+1) (by omega) hs w
  rw[hD1]at this
  exact this
 rw[hD1]at hb1
 have hw1:wrap64 ((at_:Int)+1)=((at_+1:Nat):Int):=by unfold wrap64;omega
 have hi2:(i:Int)<(s.size:Int):=by omega
 have ti:=CY (show¬i=s.size by omega)
 have t44:((s[i].toNat:Int)==44)=true:=FU De
 have hb2:=Ai s.data.toList (i+1) (by omega)
 have Ii:Hid (∀w,Calls Tryz.prog 156 #[.string s,.int .i64 ((i+1:Nat):Int)] w fun e w'=>e= .returned (.tuple #[.int .i64 t,.int .i64 j])/\ ∃n,w'=w.drewN n):=fun w=>by
  have:=Ar s (i+1) (by omega) hs w
  rw[hD2]at this
  exact this
 rw[hD2]at hb2
 have hw2:wrap64 ((i:Int)+1)=((i+1:Nat):Int):=by unfold wrap64;omega
 have tj:=Hw hj
 clear hlen hb1 hD1 De hb2 hD2 hj
 go_enter Tryz.func137,Tryz.ntmps137
 go_wp2_with (first
  |(refine Cy rfl (.tmp 2) rfl (r:=r) rfl ?_;intro w1 b1 e1 p1 l1 z1)
  |(refine Ab rfl rfl ?_;intro w2 b2 e2 p2 l2 z2))
 have P2:=hid (p1.below l2)
 have G2:=hid p2
 have L2:=hid (l1.trans (l2.mono l1.size))
 have hwb:w.heap.size<=b1/\w.heap.size<=b2/\b1≠b2:=by omega
 have NF:=hid hwb
 clear e1 p1 l1 z1 e2 p2 l2 z2 hwb
 refine(GQ.out _).mono ?_
 rintro e w3 ⟨rfl,n3,rfl⟩
 have P3:Hid (Ad (w2.drewN n3) b1 r):=P2
 have G3:Hid (Cq (w2.drewN n3) b2 Af 0 0 0):=G2
 have L3:Hid (Below w.heap.size w (w2.drewN n3)):=L2.out.trans ((below_draws w2 n3).mono L2.out.size)
 clear P2 G2 L2
 generalize w2.drewN n3=w3 at*
 go_wp2_with fail
 refine(Ii.out _).mono ?_
 rintro e w4 ⟨rfl,n4,rfl⟩
 have P4:Hid (Ad (w3.drewN n4) b1 r):=P3
 have G4:Hid (Cq (w3.drewN n4) b2 Af 0 0 0):=G3
 have L4:Hid (Below w.heap.size w (w3.drewN n4)):=L3.out.trans ((below_draws w3 n4).mono L3.out.size)
 clear P3 G3 L3
 generalize w3.drewN n4=w4 at*
 go_wp2_with fail
 refine(Bj at_ 3 (by decide) _).mono ?_
 rintro e w5 ⟨l5,he,tq,rfl⟩
 have G5:=hid (G4.out.below l5)
 have L5:=hid (L4.out.trans (l5.mono L4.out.size))
 clear l5
 go_wp2_with (first
  |(refine AQ (r:=Af) (to:=tq) rfl (.tmp 6) (.tmp 66) rfl rfl rfl G5.out ?_;intro w6 p6 l6 z6))
 exact Av rfl rfl p6 rfl ⟨L5.out.trans (l6.below L5.out.size NF.out.2.1),by decide,tq,rfl⟩
theorem OD (hat:at_<s.size) (hs:s.size<=900) (hD1:Am s.data.toList (at_+1)=(m,i)) (hm: ¬m<0) (hi:i<s.size) (De:s[i]=44) (hD2:Am s.data.toList (i+1)=(t,j)) (ht:t<0) (hj:j<s.size) (Bf: ¬s[j]=125):
    Calls Tryz.prog 137 #[.string s,.int .i64 at_,.agg (Ak r)] w (FP lo w (.bad at_ 3)):=by
 have hlen:s.data.toList.length=s.size:=(Lib.size_eq s).symm
 have hb1:=Ai s.data.toList (at_+1) (by omega)
 have GQ:Hid (∀w,Calls Tryz.prog 156 #[.string s,.int .i64 ((at_+1:Nat):Int)] w fun e w'=>e= .returned (.tuple #[.int .i64 m,.int .i64 i])/\ ∃n,w'=w.drewN n):=fun w=>by
  have:=Ar s (at_+1) (by omega) hs w
  rw[hD1]at this
  exact this
 rw[hD1]at hb1
 have hw1:wrap64 ((at_:Int)+1)=((at_+1:Nat):Int):=by unfold wrap64;omega
 have hi2:(i:Int)<(s.size:Int):=by omega
 have ti:=CY (show¬i=s.size by omega)
 have t44:((s[i].toNat:Int)==44)=true:=FU De
 have hb2:=Ai s.data.toList (i+1) (by omega)
 have Ii:Hid (∀w,Calls Tryz.prog 156 #[.string s,.int .i64 ((i+1:Nat):Int)] w fun e w'=>e= .returned (.tuple #[.int .i64 t,.int .i64 j])/\ ∃n,w'=w.drewN n):=fun w=>by
  have:=Ar s (i+1) (by omega) hs w
  rw[hD2]at this
  exact this
 rw[hD2]at hb2
 have hw2:wrap64 ((i:Int)+1)=((i+1:Nat):Int):=by unfold wrap64;omega
 have hj2:(j:Int)<(s.size:Int):=by omega
 have tj:=CY (show¬j=s.size by omega)
 have t125:((s[j].toNat:Int)==125)=false:=Ce Bf
 clear hlen hb1 hD1 De hb2 hD2 Bf
 go_enter Tryz.func137,Tryz.ntmps137
 go_wp2_with (first
  |(refine Cy rfl (.tmp 2) rfl (r:=r) rfl ?_;intro w1 b1 e1 p1 l1 z1)
  |(refine Ab rfl rfl ?_;intro w2 b2 e2 p2 l2 z2))
 have P2:=hid (p1.below l2)
 have G2:=hid p2
 have L2:=hid (l1.trans (l2.mono l1.size))
 have hwb:w.heap.size<=b1/\w.heap.size<=b2/\b1≠b2:=by omega
 have NF:=hid hwb
 clear e1 p1 l1 z1 e2 p2 l2 z2 hwb
 refine(GQ.out _).mono ?_
 rintro e w3 ⟨rfl,n3,rfl⟩
 have P3:Hid (Ad (w2.drewN n3) b1 r):=P2
 have G3:Hid (Cq (w2.drewN n3) b2 Af 0 0 0):=G2
 have L3:Hid (Below w.heap.size w (w2.drewN n3)):=L2.out.trans ((below_draws w2 n3).mono L2.out.size)
 clear P2 G2 L2
 generalize w2.drewN n3=w3 at*
 go_wp2_with fail
 refine(Ii.out _).mono ?_
 rintro e w4 ⟨rfl,n4,rfl⟩
 have P4:Hid (Ad (w3.drewN n4) b1 r):=P3
 have G4:Hid (Cq (w3.drewN n4) b2 Af 0 0 0):=G3
 have L4:Hid (Below w.heap.size w (w3.drewN n4)):=L3.out.trans ((below_draws w3 n4).mono L3.out.size)
 clear P3 G3 L3
 generalize w3.drewN n4=w4 at*
 go_wp2_with fail
 refine(Bj at_ 3 (by decide) _).mono ?_
 rintro e w5 ⟨l5,he,tq,rfl⟩
 have G5:=hid (G4.out.below l5)
 have L5:=hid (L4.out.trans (l5.mono L4.out.size))
 clear l5
 go_wp2_with (first
  |(refine AQ (r:=Af) (to:=tq) rfl (.tmp 6) (.tmp 54) rfl rfl rfl G5.out ?_;intro w6 p6 l6 z6))
 exact Av rfl rfl p6 rfl ⟨L5.out.trans (l6.below L5.out.size NF.out.2.1),by decide,tq,rfl⟩
theorem PQ (hat:at_<s.size) (hs:s.size<=900) (hD1:Am s.data.toList (at_+1)=(m,i)) (hm: ¬m<0) (hi:i<s.size) (De:s[i]=44) (hD2:Am s.data.toList (i+1)=(t,j)) (ht: ¬t<0) (hj:j<s.size) (Bf: ¬s[j]=125):
    Calls Tryz.prog 137 #[.string s,.int .i64 at_,.agg (Ak r)] w (FP lo w (.bad at_ 3)):=by
 have hlen:s.data.toList.length=s.size:=(Lib.size_eq s).symm
 have hb1:=Ai s.data.toList (at_+1) (by omega)
 have GQ:Hid (∀w,Calls Tryz.prog 156 #[.string s,.int .i64 ((at_+1:Nat):Int)] w fun e w'=>e= .returned (.tuple #[.int .i64 m,.int .i64 i])/\ ∃n,w'=w.drewN n):=fun w=>by
  have:=Ar s (at_+1) (by omega) hs w
  rw[hD1]at this
  exact this
 rw[hD1]at hb1
 have hw1:wrap64 ((at_:Int)+1)=((at_+1:Nat):Int):=by unfold wrap64;omega
 have hi2:(i:Int)<(s.size:Int):=by omega
 have ti:=CY (show¬i=s.size by omega)
 have t44:((s[i].toNat:Int)==44)=true:=FU De
 have hb2:=Ai s.data.toList (i+1) (by omega)
 have Ii:Hid (∀w,Calls Tryz.prog 156 #[.string s,.int .i64 ((i+1:Nat):Int)] w fun e w'=>e= .returned (.tuple #[.int .i64 t,.int .i64 j])/\ ∃n,w'=w.drewN n):=fun w=>by
  have:=Ar s (i+1) (by omega) hs w
  rw[hD2]at this
  exact this
 rw[hD2]at hb2
 have hw2:wrap64 ((i:Int)+1)=((i+1:Nat):Int):=by unfold wrap64;omega
 have hj2:(j:Int)<(s.size:Int):=by omega
 have tj:=CY (show¬j=s.size by omega)
 have t125:((s[j].toNat:Int)==125)=false:=Ce Bf
 clear hlen hb1 hD1 De hb2 hD2 Bf
 go_enter Tryz.func137,Tryz.ntmps137
 go_wp2_with (first
  |(refine Cy rfl (.tmp 2) rfl (r:=r) rfl ?_;intro w1 b1 e1 p1 l1 z1)
  |(refine Ab rfl rfl ?_;intro w2 b2 e2 p2 l2 z2))
 have P2:=hid (p1.below l2)
 have G2:=hid p2
 have L2:=hid (l1.trans (l2.mono l1.size))
 have hwb:w.heap.size<=b1/\w.heap.size<=b2/\b1≠b2:=by omega
 have NF:=hid hwb
 clear e1 p1 l1 z1 e2 p2 l2 z2 hwb
 refine(GQ.out _).mono ?_
 rintro e w3 ⟨rfl,n3,rfl⟩
 have P3:Hid (Ad (w2.drewN n3) b1 r):=P2
 have G3:Hid (Cq (w2.drewN n3) b2 Af 0 0 0):=G2
 have L3:Hid (Below w.heap.size w (w2.drewN n3)):=L2.out.trans ((below_draws w2 n3).mono L2.out.size)
 clear P2 G2 L2
 generalize w2.drewN n3=w3 at*
 go_wp2_with fail
 refine(Ii.out _).mono ?_
 rintro e w4 ⟨rfl,n4,rfl⟩
 have P4:Hid (Ad (w3.drewN n4) b1 r):=P3
 have G4:Hid (Cq (w3.drewN n4) b2 Af 0 0 0):=G3
 have L4:Hid (Below w.heap.size w (w3.drewN n4)):=L3.out.trans ((below_draws w3 n4).mono L3.out.size)
 clear P3 G3 L3
 generalize w3.drewN n4=w4 at*
 go_wp2_with fail
 refine(Bj at_ 3 (by decide) _).mono ?_
 rintro e w5 ⟨l5,he,tq,rfl⟩
 have G5:=hid (G4.out.below l5)
 have L5:=hid (L4.out.trans (l5.mono L4.out.size))
 clear l5
 go_wp2_with (first
  |(refine AQ (r:=Af) (to:=tq) rfl (.tmp 6) (.tmp 66) rfl rfl rfl G5.out ?_;intro w6 p6 l6 z6))
 exact Av rfl rfl p6 rfl ⟨L5.out.trans (l6.below L5.out.size NF.out.2.1),by decide,tq,rfl⟩
theorem OE (hat:at_<s.size) (hs:s.size<=900) (hD1:Am s.data.toList (at_+1)=(m,i)) (hm: ¬m<0) (hi:i<s.size) (De:s[i]=44) (hD2:Am s.data.toList (i+1)=(t,j)) (ht:t<0) (hj:j<s.size) (Bf:s[j]=125) (hr:m>100):
    Calls Tryz.prog 137 #[.string s,.int .i64 at_,.agg (Ak r)] w (FP lo w (.bad at_ 4)):=by
 have hlen:s.data.toList.length=s.size:=(Lib.size_eq s).symm
 have hb1:=Ai s.data.toList (at_+1) (by omega)
 have GQ:Hid (∀w,Calls Tryz.prog 156 #[.string s,.int .i64 ((at_+1:Nat):Int)] w fun e w'=>e= .returned (.tuple #[.int .i64 m,.int .i64 i])/\ ∃n,w'=w.drewN n):=fun w=>by
  have:=Ar s (at_+1) (by omega) hs w
  rw[hD1]at this
  exact this
 rw[hD1]at hb1
 have hw1:wrap64 ((at_:Int)+1)=((at_+1:Nat):Int):=by unfold wrap64;omega
 have hi2:(i:Int)<(s.size:Int):=by omega
 have ti:=CY (show¬i=s.size by omega)
 have t44:((s[i].toNat:Int)==44)=true:=FU De
 have hb2:=Ai s.data.toList (i+1) (by omega)
 have Ii:Hid (∀w,Calls Tryz.prog 156 #[.string s,.int .i64 ((i+1:Nat):Int)] w fun e w'=>e= .returned (.tuple #[.int .i64 t,.int .i64 j])/\ ∃n,w'=w.drewN n):=fun w=>by
  have:=Ar s (i+1) (by omega) hs w
  rw[hD2]at this
  exact this
 rw[hD2]at hb2
 have hw2:wrap64 ((i:Int)+1)=((i+1:Nat):Int):=by unfold wrap64;omega
 have hj2:(j:Int)<(s.size:Int):=by omega
 have tj:=CY (show¬j=s.size by omega)
 have t125:((s[j].toNat:Int)==125)=true:=FU Bf
 clear hlen hb1 hD1 De hb2 hD2 Bf
 go_enter Tryz.func137,Tryz.ntmps137
 go_wp2_with (first
  |(refine Cy rfl (.tmp 2) rfl (r:=r) rfl ?_;intro w1 b1 e1 p1 l1 z1)
  |(refine Ab rfl rfl ?_;intro w2 b2 e2 p2 l2 z2))
 have P2:=hid (p1.below l2)
 have G2:=hid p2
 have L2:=hid (l1.trans (l2.mono l1.size))
 have hwb:w.heap.size<=b1/\w.heap.size<=b2/\b1≠b2:=by omega
 have NF:=hid hwb
 clear e1 p1 l1 z1 e2 p2 l2 z2 hwb
 refine(GQ.out _).mono ?_
 rintro e w3 ⟨rfl,n3,rfl⟩
 have P3:Hid (Ad (w2.drewN n3) b1 r):=P2
 have G3:Hid (Cq (w2.drewN n3) b2 Af 0 0 0):=G2
 have L3:Hid (Below w.heap.size w (w2.drewN n3)):=L2.out.trans ((below_draws w2 n3).mono L2.out.size)
 clear P2 G2 L2
 generalize w2.drewN n3=w3 at*
 go_wp2_with fail
 refine(Ii.out _).mono ?_
 rintro e w4 ⟨rfl,n4,rfl⟩
 have P4:Hid (Ad (w3.drewN n4) b1 r):=P3
 have G4:Hid (Cq (w3.drewN n4) b2 Af 0 0 0):=G3
 have L4:Hid (Below w.heap.size w (w3.drewN n4)):=L3.out.trans ((below_draws w3 n4).mono L3.out.size)
 clear P3 G3 L3
 generalize w3.drewN n4=w4 at*
 go_wp2_with fail
 refine(Bj at_ 4 (by decide) _).mono ?_
 rintro e w5 ⟨l5,he,tq,rfl⟩
 have G5:=hid (G4.out.below l5)
 have L5:=hid (L4.out.trans (l5.mono L4.out.size))
 clear l5
 go_wp2_with (first
  |(refine AQ (r:=Af) (to:=tq) rfl (.tmp 6) (.tmp 83) rfl rfl rfl G5.out ?_;intro w6 p6 l6 z6))
 exact Av rfl rfl p6 rfl ⟨L5.out.trans (l6.below L5.out.size NF.out.2.1),by decide,tq,rfl⟩
theorem PS (hat:at_<s.size) (hs:s.size<=900) (hD1:Am s.data.toList (at_+1)=(m,i)) (eZ:Hid (lo<=w.heap.size)) (HP:Hid (DF (In lo w.heap.size) w r p)) (hm: ¬m<0) (hi:i<s.size) (De:s[i]=44) (hD2:Am s.data.toList (i+1)=(t,j)) (ht:t<0) (hj:j<s.size) (Bf:s[j]=125) (hr: ¬m>100):
    Calls Tryz.prog 137 #[.string s,.int .i64 at_,.agg (Ak r)] w (FP lo w (.ok (.mk 9 ⟨#[]⟩ [p] m t) (j+1))):=by
 have hlen:s.data.toList.length=s.size:=(Lib.size_eq s).symm
 have hb1:=Ai s.data.toList (at_+1) (by omega)
 have GQ:Hid (∀w,Calls Tryz.prog 156 #[.string s,.int .i64 ((at_+1:Nat):Int)] w fun e w'=>e= .returned (.tuple #[.int .i64 m,.int .i64 i])/\ ∃n,w'=w.drewN n):=fun w=>by
  have:=Ar s (at_+1) (by omega) hs w
  rw[hD1]at this
  exact this
 rw[hD1]at hb1
 have hw1:wrap64 ((at_:Int)+1)=((at_+1:Nat):Int):=by unfold wrap64;omega
 have hi2:(i:Int)<(s.size:Int):=by omega
 have ti:=CY (show¬i=s.size by omega)
 have t44:((s[i].toNat:Int)==44)=true:=FU De
 have hb2:=Ai s.data.toList (i+1) (by omega)
 have Ii:Hid (∀w,Calls Tryz.prog 156 #[.string s,.int .i64 ((i+1:Nat):Int)] w fun e w'=>e= .returned (.tuple #[.int .i64 t,.int .i64 j])/\ ∃n,w'=w.drewN n):=fun w=>by
  have:=Ar s (i+1) (by omega) hs w
  rw[hD2]at this
  exact this
 rw[hD2]at hb2
 have hw2:wrap64 ((i:Int)+1)=((i+1:Nat):Int):=by unfold wrap64;omega
 have hj2:(j:Int)<(s.size:Int):=by omega
 have tj:=CY (show¬j=s.size by omega)
 have t125:((s[j].toNat:Int)==125)=true:=FU Bf
 have d1:decide ((100:Int)<m)=false:=decide_eq_false (by omega)
 have d2:decide ((100:Int)<t)=false:=decide_eq_false (by omega)
 have d3:decide ((0:Int)<=t)=false:=decide_eq_false (by omega)
 have Jf:wrap64 ((j:Int)+1)=((j+1:Nat):Int):=by unfold wrap64;omega
 clear hr
 clear hlen hb1 hD1 De hb2 hD2 Bf
 go_enter Tryz.func137,Tryz.ntmps137
 go_wp2_with (first
  |(refine Cy rfl (.tmp 2) rfl (r:=r) rfl ?_;intro w1 b1 e1 p1 l1 z1)
  |(refine Ab rfl rfl ?_;intro w2 b2 e2 p2 l2 z2))
 have P2:=hid (p1.below l2)
 have G2:=hid p2
 have L2:=hid (l1.trans (l2.mono l1.size))
 have hwb:w.heap.size<=b1/\w.heap.size<=b2/\b1≠b2:=by omega
 have NF:=hid hwb
 clear e1 p1 l1 z1 e2 p2 l2 z2 hwb
 refine(GQ.out _).mono ?_
 rintro e w3 ⟨rfl,n3,rfl⟩
 have P3:Hid (Ad (w2.drewN n3) b1 r):=P2
 have G3:Hid (Cq (w2.drewN n3) b2 Af 0 0 0):=G2
 have L3:Hid (Below w.heap.size w (w2.drewN n3)):=L2.out.trans ((below_draws w2 n3).mono L2.out.size)
 clear P2 G2 L2
 generalize w2.drewN n3=w3 at*
 go_wp2_with fail
 refine(Ii.out _).mono ?_
 rintro e w4 ⟨rfl,n4,rfl⟩
 have P4:Hid (Ad (w3.drewN n4) b1 r):=P3
 have G4:Hid (Cq (w3.drewN n4) b2 Af 0 0 0):=G3
 have L4:Hid (Below w.heap.size w (w3.drewN n4)):=L3.out.trans ((below_draws w3 n4).mono L3.out.size)
 clear P3 G3 L3
 generalize w3.drewN n4=w4 at*
 go_upto_region 13 with fail
 go_wp2_with (first
  |(refine AU rfl (.tmp 5) rfl rfl P4.out ?_)
  |(refine B_ rfl (.tmp 84) rfl (r:=r) rfl ?_;intro w6 b3 e6 r6 l6 z6;have G6:=G4.out.below l6)
  |(refine Cc (r:=⟨9,⟨#[]⟩,some ⟨b3,0,none⟩,1,1,m,t⟩) rfl (.tmp 88) (.tmp 90) rfl rfl rfl ?_)
  |(refine AQ (r:=⟨9,⟨#[]⟩,some ⟨b3,0,none⟩,1,1,m,t⟩) rfl (.tmp 6) (.tmp 91) rfl rfl rfl G6 ?_;intro w7 p7 l7 z7))
 have hwb:=NF.out
 have L6:=L4.out.trans (l6.mono L4.out.size)
 have hz:=L4.out.size
 have vz:=G4.out.lt
 have hb3:b3<w6.heap.size:=by rw[z6];omega
 have Zl:b3≠b2:=by omega
 refine Av rfl rfl p7 rfl ⟨L6.trans (l7.below L6.size hwb.2.1),_,rfl,.mk _ _ _ _ _ _ _ [r] [p] w7.heap.size ?_ ?_ rfl ?_⟩
 ·have r7:Ea w6.heap.size w7 (.slice (some ⟨b3,0,none⟩) 1 1) [r]:=EF r6 fun ad e _ q hq=>by
    cases e
    exact AO (l7.block _ (by rw[hq];exact hb3) (by rw[hq];exact Zl))
  rw[z7];exact r7
 ·intro ad e _
  cases e
  exact⟨Nat.le_trans eZ.out (by rw[<-e6];exact hz),by rw[z7];exact hb3⟩
 intro k i1 i2
 have i0:k=0:=by simp at i1;omega
 subst i0
 exact HP.out.CP (L6.trans (l7.below L6.size hwb.2.1))
theorem PT (hat:at_<s.size) (hs:s.size<=900) (hD1:Am s.data.toList (at_+1)=(m,i)) (hm: ¬m<0) (hi:i<s.size) (De:s[i]=44) (hD2:Am s.data.toList (i+1)=(t,j)) (ht: ¬t<0) (hj:j<s.size) (Bf:s[j]=125) (hr:m>100):
    Calls Tryz.prog 137 #[.string s,.int .i64 at_,.agg (Ak r)] w (FP lo w (.bad at_ 4)):=by
 have hlen:s.data.toList.length=s.size:=(Lib.size_eq s).symm
 have hb1:=Ai s.data.toList (at_+1) (by omega)
 have GQ:Hid (∀w,Calls Tryz.prog 156 #[.string s,.int .i64 ((at_+1:Nat):Int)] w fun e w'=>e= .returned (.tuple #[.int .i64 m,.int .i64 i])/\ ∃n,w'=w.drewN n):=fun w=>by
  have:=Ar s (at_+1) (by omega) hs w
  rw[hD1]at this
  exact this
 rw[hD1]at hb1
 have hw1:wrap64 ((at_:Int)+1)=((at_+1:Nat):Int):=by unfold wrap64;omega
 have hi2:(i:Int)<(s.size:Int):=by omega
 have ti:=CY (show¬i=s.size by omega)
 have t44:((s[i].toNat:Int)==44)=true:=FU De
 have hb2:=Ai s.data.toList (i+1) (by omega)
 have Ii:Hid (∀w,Calls Tryz.prog 156 #[.string s,.int .i64 ((i+1:Nat):Int)] w fun e w'=>e= .returned (.tuple #[.int .i64 t,.int .i64 j])/\ ∃n,w'=w.drewN n):=fun w=>by
  have:=Ar s (i+1) (by omega) hs w
  rw[hD2]at this
  exact this
 rw[hD2]at hb2
 have hw2:wrap64 ((i:Int)+1)=((i+1:Nat):Int):=by unfold wrap64;omega
 have hj2:(j:Int)<(s.size:Int):=by omega
 have tj:=CY (show¬j=s.size by omega)
 have t125:((s[j].toNat:Int)==125)=true:=FU Bf
 clear hlen hb1 hD1 De hb2 hD2 Bf
 go_enter Tryz.func137,Tryz.ntmps137
 go_wp2_with (first
  |(refine Cy rfl (.tmp 2) rfl (r:=r) rfl ?_;intro w1 b1 e1 p1 l1 z1)
  |(refine Ab rfl rfl ?_;intro w2 b2 e2 p2 l2 z2))
 have P2:=hid (p1.below l2)
 have G2:=hid p2
 have L2:=hid (l1.trans (l2.mono l1.size))
 have hwb:w.heap.size<=b1/\w.heap.size<=b2/\b1≠b2:=by omega
 have NF:=hid hwb
 clear e1 p1 l1 z1 e2 p2 l2 z2 hwb
 refine(GQ.out _).mono ?_
 rintro e w3 ⟨rfl,n3,rfl⟩
 have P3:Hid (Ad (w2.drewN n3) b1 r):=P2
 have G3:Hid (Cq (w2.drewN n3) b2 Af 0 0 0):=G2
 have L3:Hid (Below w.heap.size w (w2.drewN n3)):=L2.out.trans ((below_draws w2 n3).mono L2.out.size)
 clear P2 G2 L2
 generalize w2.drewN n3=w3 at*
 go_wp2_with fail
 refine(Ii.out _).mono ?_
 rintro e w4 ⟨rfl,n4,rfl⟩
 have P4:Hid (Ad (w3.drewN n4) b1 r):=P3
 have G4:Hid (Cq (w3.drewN n4) b2 Af 0 0 0):=G3
 have L4:Hid (Below w.heap.size w (w3.drewN n4)):=L3.out.trans ((below_draws w3 n4).mono L3.out.size)
 clear P3 G3 L3
 generalize w3.drewN n4=w4 at*
 go_wp2_with fail
 refine(Bj at_ 4 (by decide) _).mono ?_
 rintro e w5 ⟨l5,he,tq,rfl⟩
 have G5:=hid (G4.out.below l5)
 have L5:=hid (L4.out.trans (l5.mono L4.out.size))
 clear l5
 go_wp2_with (first
  |(refine AQ (r:=Af) (to:=tq) rfl (.tmp 6) (.tmp 83) rfl rfl rfl G5.out ?_;intro w6 p6 l6 z6))
 exact Av rfl rfl p6 rfl ⟨L5.out.trans (l6.below L5.out.size NF.out.2.1),by decide,tq,rfl⟩
theorem OG (hat:at_<s.size) (hs:s.size<=900) (hD1:Am s.data.toList (at_+1)=(m,i)) (hm: ¬m<0) (hi:i<s.size) (De:s[i]=44) (hD2:Am s.data.toList (i+1)=(t,j)) (_ht: ¬t<0) (hj:j<s.size) (Bf:s[j]=125) (hr: ¬m>100) (hr2:t>100):
    Calls Tryz.prog 137 #[.string s,.int .i64 at_,.agg (Ak r)] w (FP lo w (.bad at_ 4)):=by
 have hlen:s.data.toList.length=s.size:=(Lib.size_eq s).symm
 have hb1:=Ai s.data.toList (at_+1) (by omega)
 have GQ:Hid (∀w,Calls Tryz.prog 156 #[.string s,.int .i64 ((at_+1:Nat):Int)] w fun e w'=>e= .returned (.tuple #[.int .i64 m,.int .i64 i])/\ ∃n,w'=w.drewN n):=fun w=>by
  have:=Ar s (at_+1) (by omega) hs w
  rw[hD1]at this
  exact this
 rw[hD1]at hb1
 have hw1:wrap64 ((at_:Int)+1)=((at_+1:Nat):Int):=by unfold wrap64;omega
 have hi2:(i:Int)<(s.size:Int):=by omega
 have ti:=CY (show¬i=s.size by omega)
 have t44:((s[i].toNat:Int)==44)=true:=FU De
 have hb2:=Ai s.data.toList (i+1) (by omega)
 have Ii:Hid (∀w,Calls Tryz.prog 156 #[.string s,.int .i64 ((i+1:Nat):Int)] w fun e w'=>e= .returned (.tuple #[.int .i64 t,.int .i64 j])/\ ∃n,w'=w.drewN n):=fun w=>by
  have:=Ar s (i+1) (by omega) hs w
  rw[hD2]at this
  exact this
 rw[hD2]at hb2
 have hw2:wrap64 ((i:Int)+1)=((i+1:Nat):Int):=by unfold wrap64;omega
 have hj2:(j:Int)<(s.size:Int):=by omega
 have tj:=CY (show¬j=s.size by omega)
 have t125:((s[j].toNat:Int)==125)=true:=FU Bf
 clear hlen hb1 hD1 De hb2 hD2 Bf
 go_enter Tryz.func137,Tryz.ntmps137
 go_wp2_with (first
  |(refine Cy rfl (.tmp 2) rfl (r:=r) rfl ?_;intro w1 b1 e1 p1 l1 z1)
  |(refine Ab rfl rfl ?_;intro w2 b2 e2 p2 l2 z2))
 have P2:=hid (p1.below l2)
 have G2:=hid p2
 have L2:=hid (l1.trans (l2.mono l1.size))
 have hwb:w.heap.size<=b1/\w.heap.size<=b2/\b1≠b2:=by omega
 have NF:=hid hwb
 clear e1 p1 l1 z1 e2 p2 l2 z2 hwb
 refine(GQ.out _).mono ?_
 rintro e w3 ⟨rfl,n3,rfl⟩
 have P3:Hid (Ad (w2.drewN n3) b1 r):=P2
 have G3:Hid (Cq (w2.drewN n3) b2 Af 0 0 0):=G2
 have L3:Hid (Below w.heap.size w (w2.drewN n3)):=L2.out.trans ((below_draws w2 n3).mono L2.out.size)
 clear P2 G2 L2
 generalize w2.drewN n3=w3 at*
 go_wp2_with fail
 refine(Ii.out _).mono ?_
 rintro e w4 ⟨rfl,n4,rfl⟩
 have P4:Hid (Ad (w3.drewN n4) b1 r):=P3
 have G4:Hid (Cq (w3.drewN n4) b2 Af 0 0 0):=G3
 have L4:Hid (Below w.heap.size w (w3.drewN n4)):=L3.out.trans ((below_draws w3 n4).mono L3.out.size)
 clear P3 G3 L3
 generalize w3.drewN n4=w4 at*
 go_wp2_with fail
 refine(Bj at_ 4 (by decide) _).mono ?_
 rintro e w5 ⟨l5,he,tq,rfl⟩
 have G5:=hid (G4.out.below l5)
 have L5:=hid (L4.out.trans (l5.mono L4.out.size))
 clear l5
 go_wp2_with (first
  |(refine AQ (r:=Af) (to:=tq) rfl (.tmp 6) (.tmp 83) rfl rfl rfl G5.out ?_;intro w6 p6 l6 z6))
 exact Av rfl rfl p6 rfl ⟨L5.out.trans (l6.below L5.out.size NF.out.2.1),by decide,tq,rfl⟩
theorem OH (hat:at_<s.size) (hs:s.size<=900) (hD1:Am s.data.toList (at_+1)=(m,i)) (hm: ¬m<0) (hi:i<s.size) (De:s[i]=44) (hD2:Am s.data.toList (i+1)=(t,j)) (ht: ¬t<0) (hj:j<s.size) (Bf:s[j]=125) (hr: ¬m>100) (hr2: ¬t>100) (hr3:m>t):
    Calls Tryz.prog 137 #[.string s,.int .i64 at_,.agg (Ak r)] w (FP lo w (.bad at_ 4)):=by
 have hlen:s.data.toList.length=s.size:=(Lib.size_eq s).symm
 have hb1:=Ai s.data.toList (at_+1) (by omega)
 have GQ:Hid (∀w,Calls Tryz.prog 156 #[.string s,.int .i64 ((at_+1:Nat):Int)] w fun e w'=>e= .returned (.tuple #[.int .i64 m,.int .i64 i])/\ ∃n,w'=w.drewN n):=fun w=>by
  have:=Ar s (at_+1) (by omega) hs w
  rw[hD1]at this
  exact this
 rw[hD1]at hb1
 have hw1:wrap64 ((at_:Int)+1)=((at_+1:Nat):Int):=by unfold wrap64;omega
 have hi2:(i:Int)<(s.size:Int):=by omega
 have ti:=CY (show¬i=s.size by omega)
 have t44:((s[i].toNat:Int)==44)=true:=FU De
 have hb2:=Ai s.data.toList (i+1) (by omega)
 have Ii:Hid (∀w,Calls Tryz.prog 156 #[.string s,.int .i64 ((i+1:Nat):Int)] w fun e w'=>e= .returned (.tuple #[.int .i64 t,.int .i64 j])/\ ∃n,w'=w.drewN n):=fun w=>by
  have:=Ar s (i+1) (by omega) hs w
  rw[hD2]at this
  exact this
 rw[hD2]at hb2
 have hw2:wrap64 ((i:Int)+1)=((i+1:Nat):Int):=by unfold wrap64;omega
 have hj2:(j:Int)<(s.size:Int):=by omega
 have tj:=CY (show¬j=s.size by omega)
 have t125:((s[j].toNat:Int)==125)=true:=FU Bf
 clear hlen hb1 hD1 De hb2 hD2 Bf
 go_enter Tryz.func137,Tryz.ntmps137
 go_wp2_with (first
  |(refine Cy rfl (.tmp 2) rfl (r:=r) rfl ?_;intro w1 b1 e1 p1 l1 z1)
  |(refine Ab rfl rfl ?_;intro w2 b2 e2 p2 l2 z2))
 have P2:=hid (p1.below l2)
 have G2:=hid p2
 have L2:=hid (l1.trans (l2.mono l1.size))
 have hwb:w.heap.size<=b1/\w.heap.size<=b2/\b1≠b2:=by omega
 have NF:=hid hwb
 clear e1 p1 l1 z1 e2 p2 l2 z2 hwb
 refine(GQ.out _).mono ?_
 rintro e w3 ⟨rfl,n3,rfl⟩
 have P3:Hid (Ad (w2.drewN n3) b1 r):=P2
 have G3:Hid (Cq (w2.drewN n3) b2 Af 0 0 0):=G2
 have L3:Hid (Below w.heap.size w (w2.drewN n3)):=L2.out.trans ((below_draws w2 n3).mono L2.out.size)
 clear P2 G2 L2
 generalize w2.drewN n3=w3 at*
 go_wp2_with fail
 refine(Ii.out _).mono ?_
 rintro e w4 ⟨rfl,n4,rfl⟩
 have P4:Hid (Ad (w3.drewN n4) b1 r):=P3
 have G4:Hid (Cq (w3.drewN n4) b2 Af 0 0 0):=G3
 have L4:Hid (Below w.heap.size w (w3.drewN n4)):=L3.out.trans ((below_draws w3 n4).mono L3.out.size)
 clear P3 G3 L3
 generalize w3.drewN n4=w4 at*
 go_wp2_with fail
 refine(Bj at_ 4 (by decide) _).mono ?_
 rintro e w5 ⟨l5,he,tq,rfl⟩
 have G5:=hid (G4.out.below l5)
 have L5:=hid (L4.out.trans (l5.mono L4.out.size))
 clear l5
 go_wp2_with (first
  |(refine AQ (r:=Af) (to:=tq) rfl (.tmp 6) (.tmp 83) rfl rfl rfl G5.out ?_;intro w6 p6 l6 z6))
 exact Av rfl rfl p6 rfl ⟨L5.out.trans (l6.below L5.out.size NF.out.2.1),by decide,tq,rfl⟩
theorem Rv (hat:at_<s.size) (hs:s.size<=900) (hD1:Am s.data.toList (at_+1)=(m,i)) (eZ:Hid (lo<=w.heap.size)) (HP:Hid (DF (In lo w.heap.size) w r p)) (hm: ¬m<0) (hi:i<s.size) (De:s[i]=44) (hD2:Am s.data.toList (i+1)=(t,j)) (ht: ¬t<0) (hj:j<s.size) (Bf:s[j]=125) (hr: ¬m>100) (hr2: ¬t>100) (hr3: ¬m>t):
    Calls Tryz.prog 137 #[.string s,.int .i64 at_,.agg (Ak r)] w (FP lo w (.ok (.mk 9 ⟨#[]⟩ [p] m t) (j+1))):=by
 have hlen:s.data.toList.length=s.size:=(Lib.size_eq s).symm
 have hb1:=Ai s.data.toList (at_+1) (by omega)
 have GQ:Hid (∀w,Calls Tryz.prog 156 #[.string s,.int .i64 ((at_+1:Nat):Int)] w fun e w'=>e= .returned (.tuple #[.int .i64 m,.int .i64 i])/\ ∃n,w'=w.drewN n):=fun w=>by
  have:=Ar s (at_+1) (by omega) hs w
  rw[hD1]at this
  exact this
 rw[hD1]at hb1
 have hw1:wrap64 ((at_:Int)+1)=((at_+1:Nat):Int):=by unfold wrap64;omega
 have hi2:(i:Int)<(s.size:Int):=by omega
 have ti:=CY (show¬i=s.size by omega)
 have t44:((s[i].toNat:Int)==44)=true:=FU De
 have hb2:=Ai s.data.toList (i+1) (by omega)
 have Ii:Hid (∀w,Calls Tryz.prog 156 #[.string s,.int .i64 ((i+1:Nat):Int)] w fun e w'=>e= .returned (.tuple #[.int .i64 t,.int .i64 j])/\ ∃n,w'=w.drewN n):=fun w=>by
  have:=Ar s (i+1) (by omega) hs w
  rw[hD2]at this
  exact this
 rw[hD2]at hb2
 have hw2:wrap64 ((i:Int)+1)=((i+1:Nat):Int):=by unfold wrap64;omega
 have hj2:(j:Int)<(s.size:Int):=by omega
 have tj:=CY (show¬j=s.size by omega)
 have t125:((s[j].toNat:Int)==125)=true:=FU Bf
 have d1:decide ((100:Int)<m)=false:=decide_eq_false (by omega)
 have d2:decide ((100:Int)<t)=false:=decide_eq_false (by omega)
 have d3:decide ((0:Int)<=t)=true:=decide_eq_true (by omega)
 have d4:decide (t<m)=false:=decide_eq_false (by omega)
 have Jf:wrap64 ((j:Int)+1)=((j+1:Nat):Int):=by unfold wrap64;omega
 clear hr hr2 hr3
 clear hlen hb1 hD1 De hb2 hD2 Bf
 go_enter Tryz.func137,Tryz.ntmps137
 go_wp2_with (first
  |(refine Cy rfl (.tmp 2) rfl (r:=r) rfl ?_;intro w1 b1 e1 p1 l1 z1)
  |(refine Ab rfl rfl ?_;intro w2 b2 e2 p2 l2 z2))
 have P2:=hid (p1.below l2)
 have G2:=hid p2
 have L2:=hid (l1.trans (l2.mono l1.size))
 have hwb:w.heap.size<=b1/\w.heap.size<=b2/\b1≠b2:=by omega
 have NF:=hid hwb
 clear e1 p1 l1 z1 e2 p2 l2 z2 hwb
 refine(GQ.out _).mono ?_
 rintro e w3 ⟨rfl,n3,rfl⟩
 have P3:Hid (Ad (w2.drewN n3) b1 r):=P2
 have G3:Hid (Cq (w2.drewN n3) b2 Af 0 0 0):=G2
 have L3:Hid (Below w.heap.size w (w2.drewN n3)):=L2.out.trans ((below_draws w2 n3).mono L2.out.size)
 clear P2 G2 L2
 generalize w2.drewN n3=w3 at*
 go_wp2_with fail
 refine(Ii.out _).mono ?_
 rintro e w4 ⟨rfl,n4,rfl⟩
 have P4:Hid (Ad (w3.drewN n4) b1 r):=P3
 have G4:Hid (Cq (w3.drewN n4) b2 Af 0 0 0):=G3
 have L4:Hid (Below w.heap.size w (w3.drewN n4)):=L3.out.trans ((below_draws w3 n4).mono L3.out.size)
 clear P3 G3 L3
 generalize w3.drewN n4=w4 at*
 go_upto_region 13 with fail
 go_wp2_with (first
  |(refine AU rfl (.tmp 5) rfl rfl P4.out ?_)
  |(refine B_ rfl (.tmp 84) rfl (r:=r) rfl ?_;intro w6 b3 e6 r6 l6 z6;have G6:=G4.out.below l6)
  |(refine Cc (r:=⟨9,⟨#[]⟩,some ⟨b3,0,none⟩,1,1,m,t⟩) rfl (.tmp 88) (.tmp 90) rfl rfl rfl ?_)
  |(refine AQ (r:=⟨9,⟨#[]⟩,some ⟨b3,0,none⟩,1,1,m,t⟩) rfl (.tmp 6) (.tmp 91) rfl rfl rfl G6 ?_;intro w7 p7 l7 z7))
 have hwb:=NF.out
 have L6:=L4.out.trans (l6.mono L4.out.size)
 have hz:=L4.out.size
 have vz:=G4.out.lt
 have hb3:b3<w6.heap.size:=by rw[z6];omega
 have Zl:b3≠b2:=by omega
 refine Av rfl rfl p7 rfl ⟨L6.trans (l7.below L6.size hwb.2.1),_,rfl,.mk _ _ _ _ _ _ _ [r] [p] w7.heap.size ?_ ?_ rfl ?_⟩
 ·have r7:Ea w6.heap.size w7 (.slice (some ⟨b3,0,none⟩) 1 1) [r]:=EF r6 fun ad e _ q hq=>by
    cases e
    exact AO (l7.block _ (by rw[hq];exact hb3) (by rw[hq];exact Zl))
  rw[z7];exact r7
 ·intro ad e _
  cases e
  exact⟨Nat.le_trans eZ.out (by rw[<-e6];exact hz),by rw[z7];exact hb3⟩
 intro k i1 i2
 have i0:k=0:=by simp at i1;omega
 subst i0
 exact HP.out.CP (L6.trans (l7.below L6.size hwb.2.1))
def GL (S:List UInt8) (p:Piece) (at_:Nat):Dg:=if(Hg S at_).1≠0 then .bad at_ (Hg S at_).1 else .ok (.mk 9 ⟨#[]⟩ [p] (Hg S at_).2.1 (Hg S at_).2.2.1) (at_+(Hg S at_).2.2.2)
theorem Fz {S:List UInt8} {p:Piece} {er:Int} {x:Int×Int×Nat} (h:Hg S at_=(er,x)) (he:er≠0):GL S p at_= .bad at_ er:=by unfold GL;rw[h,if_pos he]
theorem Z0 {S:List UInt8} {p:Piece} {n:Nat} (h:Hg S at_=(0,m,t,n+1-at_)) (hn:at_<=n):GL S p at_= .ok (.mk 9 ⟨#[]⟩ [p] m t) (n+1):=by
 unfold GL
 rw[h,if_neg (by simp)]
 simp only
 rw[show at_+(n+1-at_)=n+1 by omega]
theorem X5 {s:ByteArray} {i:Nat} (h: ¬i<s.size):s.data.toList.getD i 0=0:=by
 rw[List.getD_eq_getElem?_getD,List.getElem?_eq_none (by rw[<-Lib.size_eq];omega)];rfl
theorem Vg (hat:at_<s.size) (hs:s.size<=900) (hlo:lo<=w.heap.size) (hp:DF (In lo w.heap.size) w r p):
    Calls Tryz.prog 137 #[.string s,.int .i64 at_,.agg (Ak r)] w (FP lo w (GL s.data.toList p at_)):=by
 have hlen:s.data.toList.length=s.size:=(Lib.size_eq s).symm
 have hb1:=Ai s.data.toList (at_+1) (by omega)
 obtain⟨⟨m,i⟩,hD1⟩: ∃d,Am s.data.toList (at_+1)=d:=⟨_,rfl⟩
 rw[hD1]at hb1
 simp only at hb1
 have e0:Hg s.data.toList at_=if m<0 then Pb else if s.data.toList.getD i 0=44 then(if s.data.toList.getD (Am s.data.toList (i+1)).2 0=125 then range m (Am s.data.toList (i+1)).1 ((Am s.data.toList (i+1)).2+1-at_)else Pb)else if s.data.toList.getD i 0=125 then range m m (i+1-at_)else Pb:=by unfold Hg;rw[hD1]
 by_cases hm:m<0
 ·rw[if_pos hm]at e0
  rw[Fz e0 (by decide)];exact TL hat hs hD1 hm
 rw[if_neg hm]at e0
 by_cases hi:i<s.size
 ·rw[Hf hi]at e0
  by_cases De:s[i]=44
  ·rw[if_pos De]at e0
   have hb2:=Ai s.data.toList (i+1) (by omega)
   obtain⟨⟨t,j⟩,hD2⟩: ∃d,Am s.data.toList (i+1)=d:=⟨_,rfl⟩
   rw[hD2]at hb2 e0
   simp only at hb2 e0
   by_cases hj:j<s.size
   ·rw[Hf hj]at e0
    by_cases Bf:s[j]=125
    ·rw[if_pos Bf]at e0
     unfold range at e0
     by_cases ht:t<0
     ·by_cases hr:m>100
      ·rw[if_pos (Or.inl hr)]at e0
       rw[Fz e0 (by decide)];exact OE hat hs hD1 hm hi De hD2 ht hj Bf hr
      rw[if_neg (by omega)]at e0
      rw[Z0 e0 (by omega)];exact PS hat hs hD1 hlo hp hm hi De hD2 ht hj Bf hr
     by_cases hr:m>100
     ·rw[if_pos (Or.inl hr)]at e0
      rw[Fz e0 (by decide)];exact PT hat hs hD1 hm hi De hD2 ht hj Bf hr
     by_cases hr2:t>100
     ·rw[if_pos (Or.inr (Or.inl hr2))]at e0
      rw[Fz e0 (by decide)];exact OG hat hs hD1 hm hi De hD2 ht hj Bf hr hr2
     by_cases hr3:m>t
     ·rw[if_pos (by omega)]at e0
      rw[Fz e0 (by decide)];exact OH hat hs hD1 hm hi De hD2 ht hj Bf hr hr2 hr3
     rw[if_neg (by omega)]at e0
     rw[Z0 e0 (by omega)];exact Rv hat hs hD1 hlo hp hm hi De hD2 ht hj Bf hr hr2 hr3
    rw[if_neg Bf]at e0
    rw[Fz e0 (by decide)]
    by_cases ht:t<0
    ·exact OD hat hs hD1 hm hi De hD2 ht hj Bf
    exact PQ hat hs hD1 hm hi De hD2 ht hj Bf
   rw[X5 hj,if_neg (by decide)]at e0
   rw[Fz e0 (by decide)]
   by_cases ht:t<0
   ·exact OC hat hs hD1 hm hi De hD2 ht (by omega)
   exact PO hat hs hD1 hm hi De hD2 ht (by omega)
  rw[if_neg De]at e0
  by_cases Bf:s[i]=125
  ·rw[if_pos Bf]at e0
   unfold range at e0
   by_cases hr:m>100
   ·rw[if_pos (Or.inl hr)]at e0
    rw[Fz e0 (by decide)];exact PM hat hs hD1 hm hi De Bf hr
   rw[if_neg (by omega)]at e0
   rw[Z0 e0 (by omega)];exact Vf hat hs hD1 hlo hp hm hi De Bf hr
  rw[if_neg Bf]at e0
  rw[Fz e0 (by decide)];exact Ru hat hs hD1 hm hi De Bf
 rw[X5 hi,if_neg (by decide),if_neg (by decide)]at e0
 rw[Fz e0 (by decide)];exact Ve hat hs hD1 hm (by omega)
end
end W14
end Go.Proofs.YtfgegjinhkgpbaaGreatDoor
