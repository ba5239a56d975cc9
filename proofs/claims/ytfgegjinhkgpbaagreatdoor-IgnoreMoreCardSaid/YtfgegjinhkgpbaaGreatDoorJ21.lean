/-
  Texts joined, in build order, each with its own comment and its own conditions: W14RefTimes.
-/
import Derived.Test.YtfgegjinhkgpbaaGreatDoorJ20
import Derived.Deep.Cut
namespace Go.Proofs.YtfgegjinhkgpbaaGreatDoor
set_option maxHeartbeats 4000000
set_option maxRecDepth 100000
open Go.RowKit
open Lib (hid)
namespace W14
open Strs Recs M14
open Row256 (Beside)
open Kit (below_draws on)
def timesG (S:List UInt8) (at_:Nat):Int×Int×Int×Nat:=
 if(digitsR S (at_+1)).1<0 then no3
 else if S.getD (digitsR S (at_+1)).2 0=44 then
  (if S.getD (digitsR S ((digitsR S (at_+1)).2+1)).2 0=125 then range (digitsR S (at_+1)).1 (digitsR S ((digitsR S (at_+1)).2+1)).1 ((digitsR S ((digitsR S (at_+1)).2+1)).2+1-at_)else no3)
 else if S.getD (digitsR S (at_+1)).2 0=125 then range (digitsR S (at_+1)).1 (digitsR S (at_+1)).1 ((digitsR S (at_+1)).2+1-at_)else no3
theorem dropWhile_is: ∀l:List UInt8,l.dropWhile dig=l.drop (l.takeWhile dig).length
 | []=>rfl
 |c::l=>by
  cases h:dig c with
  |true=>rw[List.dropWhile_cons_of_pos h,List.takeWhile_cons_of_pos h,List.length_cons,List.drop_succ_cons,dropWhile_is l]
  |false=>rw[List.dropWhile_cons_of_neg (by rw[h];simp),List.takeWhile_cons_of_neg (by rw[h];simp)];rfl
theorem digitsR_yes {S:List UInt8} {j:Nat} (h:isNum ((S.drop j).takeWhile dig)=true):digitsR S j=((val ((S.drop j).takeWhile dig):Int),j+((S.drop j).takeWhile dig).length):=by unfold digitsR;rw[h,if_pos rfl]
theorem digitsR_no {S:List UInt8} {j:Nat} (h:isNum ((S.drop j).takeWhile dig)=false):digitsR S j=(-1,j):=by unfold digitsR;rw[h,if_neg (by simp)]
theorem drop_cons {S:List UInt8} {j:Nat} {c:UInt8} {r:List UInt8} (h:S.drop j=c::r):S.getD j 0=c∧S.drop (j+1)=r:=by
 constructor
 ·have:=drop_getD S j 0
  rw[h]at this
  simpa using this.symm
 ·rw[←List.drop_drop,h];rfl
theorem drop_nil {S:List UInt8} {j:Nat} (h:S.drop j= []):S.getD j 0=0:=by
 have:=drop_getD S j 0
 rw[h]at this
 simpa using this.symm
theorem head_getD (S:List UInt8) (j:Nat):(S.drop j).headD 0=S.getD j 0:=by
 cases h:S.drop j with
 |nil=>rw[drop_nil h];rfl
 |cons c r=>rw[(drop_cons h).1];rfl
theorem timesG_is (S:List UInt8) (at_:Nat):timesG S at_=braces (S.drop (at_+1)):=by
 unfold timesG braces
 cases hn:isNum ((S.drop (at_+1)).takeWhile dig)with
 |false=>rw[number_no hn,digitsR_no hn];rfl
 |true=>
  rw[number_yes hn,digitsR_yes hn,if_neg (by simp only;omega)]
  have hd:(S.drop (at_+1)).dropWhile dig=S.drop (at_+1+((S.drop (at_+1)).takeWhile dig).length):=by rw[dropWhile_is,List.drop_drop]
  generalize ((S.drop (at_+1)).takeWhile dig).length=k at*
  generalize (val ((S.drop (at_+1)).takeWhile dig))=m at*
  simp only
  cases hr:S.drop (at_+1+k)with
  |nil=>
   rw[hd,hr,drop_nil hr];rfl
  |cons c r=>
   obtain⟨h1,h2⟩:=drop_cons hr
   rw[hd,hr,h1]
   simp only
   by_cases c1:c=125
   ·subst c1
    rw[if_neg (by decide),if_pos rfl,if_pos rfl,show at_+1+k+1-at_=k+2 by omega]
   ·rw[if_neg c1,if_neg c1]
    by_cases c2:c=44
    ·rw[if_pos c2,if_pos c2,←h2]
     cases hn2:isNum ((S.drop (at_+1+k+1)).takeWhile dig)with
     |true=>
      have hne: ¬(S.drop (at_+1+k+1)).takeWhile dig= []:=fun q=>by rw[q]at hn2;simp[isNum]at hn2
      rw[if_neg hne,number_yes hn2,digitsR_yes hn2,dropWhile_is,List.drop_drop,head_getD]
      simp only
      rw[show at_+1+k+1+((S.drop (at_+1+k+1)).takeWhile dig).length+1-at_=k+((S.drop (at_+1+k+1)).takeWhile dig).length+3 by omega]
     |false=>
      rw[digitsR_no hn2,number_no hn2,head_getD]
      simp only
      rw[show at_+1+k+1+1-at_=k+3 by omega]
      by_cases hne:(S.drop (at_+1+k+1)).takeWhile dig= []
      ·rw[if_pos hne]
      ·rw[if_neg hne,if_neg]
       intro q
       cases hq:S.drop (at_+1+k+1)with
       |nil=>rw[hq]at hne;exact hne rfl
       |cons d r2=>
        rw[(drop_cons hq).1]at q
        subst q
        rw[hq]at hne
        exact hne rfl
    ·rw[if_neg c2,if_neg c2]
theorem digitsR_bounds (S:List UInt8) (j:Nat) (hj:j≤S.length): -1≤(digitsR S j).1∧(digitsR S j).1≤999∧j≤(digitsR S j).2∧(digitsR S j).2≤S.length:=by
 cases hn:isNum ((S.drop j).takeWhile dig)with
 |false=>rw[digitsR_no hn];exact⟨by simp only;omega,by simp only;omega,by simp only;omega,hj⟩
 |true=>
  rw[digitsR_yes hn]
  unfold isNum at hn
  simp only[Bool.and_eq_true,decide_eq_true_eq]at hn
  have h1:=val_small hn.2.2 hn.2.1
  have h2:=(List.takeWhile_sublist (l:=S.drop j) dig).length_le
  rw[List.length_drop]at h2
  exact⟨by simp only;omega,by simp only;omega,by simp only;omega,by simp only;omega⟩
def GotsL (lo:Nat) (w:World) (g:Got) (e:Ending) (w':World):Prop:=
 Below w.heap.size w w'∧match g with
 | .ok p to=> ∃r,e= .returned (.agg (gotA r to 0 0))∧PAt (In lo w'.heap.size) w' r p
 | .bad b er=>er≠0∧ ∃t,e= .returned (.agg (gotA zeroR t er b))
theorem box_piece {ops:Array Oper} {rest:List Oper} {o:Oper} {a:Act} {w:World} {Q:Exit→Act→World→Prop} (hgd:o.guard=none) (x:Operand) (ho:o.op= .box 56 x) {r:Raw} (hx:a.eval x= .agg (rawA r))
    (h: ∀w' b,w.heap.size=b→PBox w' b r→Below w.heap.size w w'→w'.heap.size=w.heap.size+1→wpList Tryz.prog ops Q rest (a.put o.dst (.pointer (some ⟨b,0,none⟩))) w'):wpList Tryz.prog ops Q (o::rest) a w:=
 wpList_plain hgd fun _ hK=>by
  unfold Oper.wp execOp
  simp only[ho,hx,Instr.box,newVar,newRow,Sem.run_bind,Sem.run_pure]
  exact hK _ _ (h _ _ rfl (heap_alloc_new w _) (below_new w _) (World.size_alloc w _))
section
variable {w:World} {s:ByteArray} {at_ lo i j:Nat} {m t:Int} {r:Raw} {p:Piece}
theorem refTimes_none (hat:at_<s.size) (hs:s.size≤900) (hD1:digitsR s.data.toList (at_+1)=(m,i)) (hm:m<0):
    Calls Tryz.prog 137 #[.string s,.int .i64 at_,.agg (rawA r)] w (GotsL lo w (.bad at_ 3)):=by
 have hlen:s.data.toList.length=s.size:=(Lib.size_eq s).symm
 have hb1:=digitsR_bounds s.data.toList (at_+1) (by omega)
 have HC1:Hid (∀w,Calls Tryz.prog 156 #[.string s,.int .i64 ((at_+1:Nat):Int)] w fun e w'=>e= .returned (.tuple #[.int .i64 m,.int .i64 i])∧ ∃n,w'=w.drewN n):=fun w=>by
  have:=refDigits_any s (at_+1) (by omega) hs w
  rw[hD1]at this
  exact this
 rw[hD1]at hb1
 have hw1:wrap64 ((at_:Int)+1)=((at_+1:Nat):Int):=by unfold wrap64;omega
 clear hlen hb1 hD1
 go_enter Tryz.func137,Tryz.ntmps137
 go_wp2_with (first
  |(refine box_piece rfl (.tmp 2) rfl (r:=r) rfl ?_;intro w1 b1 e1 p1 l1 z1)
  |(refine alloc_got rfl rfl ?_;intro w2 b2 e2 p2 l2 z2))
 have P2:=hid (p1.below l2)
 have G2:=hid p2
 have L2:=hid (l1.trans (l2.mono l1.size))
 have hwb:w.heap.size≤b1∧w.heap.size≤b2∧b1≠b2:=by omega
 have HWB:=hid hwb
 clear e1 p1 l1 z1 e2 p2 l2 z2 hwb
 refine(HC1.out _).mono ?_
 rintro e w3 ⟨rfl,n3,rfl⟩
 have P3:Hid (PBox (w2.drewN n3) b1 r):=P2
 have G3:Hid (GBox (w2.drewN n3) b2 zeroR 0 0 0):=G2
 have L3:Hid (Below w.heap.size w (w2.drewN n3)):=L2.out.trans ((below_draws w2 n3).mono L2.out.size)
 clear P2 G2 L2
 generalize w2.drewN n3=w3 at*
 go_wp2_with fail
 refine(refBad_any at_ 3 (by decide) _).mono ?_
 rintro e w5 ⟨l5,he,tq,rfl⟩
 have G5:=hid (G3.out.below l5)
 have L5:=hid (L3.out.trans (l5.mono L3.out.size))
 clear l5
 go_wp2_with (first
  |(refine store_got (r:=zeroR) (to:=tq) rfl (.tmp 6) (.tmp 26) rfl rfl rfl G5.out ?_;intro w6 p6 l6 z6))
 exact end_got rfl rfl p6 rfl ⟨L5.out.trans (l6.below L5.out.size HWB.out.2.1),by decide,tq,rfl⟩
theorem refTimes_end (hat:at_<s.size) (hs:s.size≤900) (hD1:digitsR s.data.toList (at_+1)=(m,i)) (hm: ¬m<0) (hi:i=s.size):
    Calls Tryz.prog 137 #[.string s,.int .i64 at_,.agg (rawA r)] w (GotsL lo w (.bad at_ 3)):=by
 have hlen:s.data.toList.length=s.size:=(Lib.size_eq s).symm
 have hb1:=digitsR_bounds s.data.toList (at_+1) (by omega)
 have HC1:Hid (∀w,Calls Tryz.prog 156 #[.string s,.int .i64 ((at_+1:Nat):Int)] w fun e w'=>e= .returned (.tuple #[.int .i64 m,.int .i64 i])∧ ∃n,w'=w.drewN n):=fun w=>by
  have:=refDigits_any s (at_+1) (by omega) hs w
  rw[hD1]at this
  exact this
 rw[hD1]at hb1
 have hw1:wrap64 ((at_:Int)+1)=((at_+1:Nat):Int):=by unfold wrap64;omega
 have ti:=int_yes hi
 clear hlen hb1 hD1 hi
 go_enter Tryz.func137,Tryz.ntmps137
 go_wp2_with (first
  |(refine box_piece rfl (.tmp 2) rfl (r:=r) rfl ?_;intro w1 b1 e1 p1 l1 z1)
  |(refine alloc_got rfl rfl ?_;intro w2 b2 e2 p2 l2 z2))
 have P2:=hid (p1.below l2)
 have G2:=hid p2
 have L2:=hid (l1.trans (l2.mono l1.size))
 have hwb:w.heap.size≤b1∧w.heap.size≤b2∧b1≠b2:=by omega
 have HWB:=hid hwb
 clear e1 p1 l1 z1 e2 p2 l2 z2 hwb
 refine(HC1.out _).mono ?_
 rintro e w3 ⟨rfl,n3,rfl⟩
 have P3:Hid (PBox (w2.drewN n3) b1 r):=P2
 have G3:Hid (GBox (w2.drewN n3) b2 zeroR 0 0 0):=G2
 have L3:Hid (Below w.heap.size w (w2.drewN n3)):=L2.out.trans ((below_draws w2 n3).mono L2.out.size)
 clear P2 G2 L2
 generalize w2.drewN n3=w3 at*
 go_wp2_with fail
 refine(refBad_any at_ 3 (by decide) _).mono ?_
 rintro e w5 ⟨l5,he,tq,rfl⟩
 have G5:=hid (G3.out.below l5)
 have L5:=hid (L3.out.trans (l5.mono L3.out.size))
 clear l5
 go_wp2_with (first
  |(refine store_got (r:=zeroR) (to:=tq) rfl (.tmp 6) (.tmp 26) rfl rfl rfl G5.out ?_;intro w6 p6 l6 z6))
 exact end_got rfl rfl p6 rfl ⟨L5.out.trans (l6.below L5.out.size HWB.out.2.1),by decide,tq,rfl⟩
theorem refTimes_other (hat:at_<s.size) (hs:s.size≤900) (hD1:digitsR s.data.toList (at_+1)=(m,i)) (hm: ¬m<0) (hi:i<s.size) (h44: ¬s[i]=44) (h125: ¬s[i]=125):
    Calls Tryz.prog 137 #[.string s,.int .i64 at_,.agg (rawA r)] w (GotsL lo w (.bad at_ 3)):=by
 have hlen:s.data.toList.length=s.size:=(Lib.size_eq s).symm
 have hb1:=digitsR_bounds s.data.toList (at_+1) (by omega)
 have HC1:Hid (∀w,Calls Tryz.prog 156 #[.string s,.int .i64 ((at_+1:Nat):Int)] w fun e w'=>e= .returned (.tuple #[.int .i64 m,.int .i64 i])∧ ∃n,w'=w.drewN n):=fun w=>by
  have:=refDigits_any s (at_+1) (by omega) hs w
  rw[hD1]at this
  exact this
 rw[hD1]at hb1
 have hw1:wrap64 ((at_:Int)+1)=((at_+1:Nat):Int):=by unfold wrap64;omega
 have hi2:(i:Int)<(s.size:Int):=by omega
 have ti:=int_no (show¬i=s.size by omega)
 have t44:((s[i].toNat:Int)==44)=false:=u8n h44
 have t125:((s[i].toNat:Int)==125)=false:=u8n h125
 clear hlen hb1 hD1 h44 h125
 go_enter Tryz.func137,Tryz.ntmps137
 go_wp2_with (first
  |(refine box_piece rfl (.tmp 2) rfl (r:=r) rfl ?_;intro w1 b1 e1 p1 l1 z1)
  |(refine alloc_got rfl rfl ?_;intro w2 b2 e2 p2 l2 z2))
 have P2:=hid (p1.below l2)
 have G2:=hid p2
 have L2:=hid (l1.trans (l2.mono l1.size))
 have hwb:w.heap.size≤b1∧w.heap.size≤b2∧b1≠b2:=by omega
 have HWB:=hid hwb
 clear e1 p1 l1 z1 e2 p2 l2 z2 hwb
 refine(HC1.out _).mono ?_
 rintro e w3 ⟨rfl,n3,rfl⟩
 have P3:Hid (PBox (w2.drewN n3) b1 r):=P2
 have G3:Hid (GBox (w2.drewN n3) b2 zeroR 0 0 0):=G2
 have L3:Hid (Below w.heap.size w (w2.drewN n3)):=L2.out.trans ((below_draws w2 n3).mono L2.out.size)
 clear P2 G2 L2
 generalize w2.drewN n3=w3 at*
 go_wp2_with fail
 refine(refBad_any at_ 3 (by decide) _).mono ?_
 rintro e w5 ⟨l5,he,tq,rfl⟩
 have G5:=hid (G3.out.below l5)
 have L5:=hid (L3.out.trans (l5.mono L3.out.size))
 clear l5
 go_wp2_with (first
  |(refine store_got (r:=zeroR) (to:=tq) rfl (.tmp 6) (.tmp 66) rfl rfl rfl G5.out ?_;intro w6 p6 l6 z6))
 exact end_got rfl rfl p6 rfl ⟨L5.out.trans (l6.below L5.out.size HWB.out.2.1),by decide,tq,rfl⟩
theorem refTimes_oneBad (hat:at_<s.size) (hs:s.size≤900) (hD1:digitsR s.data.toList (at_+1)=(m,i)) (hm: ¬m<0) (hi:i<s.size) (h44: ¬s[i]=44) (h125:s[i]=125) (hr:m>100):
    Calls Tryz.prog 137 #[.string s,.int .i64 at_,.agg (rawA r)] w (GotsL lo w (.bad at_ 4)):=by
 have hlen:s.data.toList.length=s.size:=(Lib.size_eq s).symm
 have hb1:=digitsR_bounds s.data.toList (at_+1) (by omega)
 have HC1:Hid (∀w,Calls Tryz.prog 156 #[.string s,.int .i64 ((at_+1:Nat):Int)] w fun e w'=>e= .returned (.tuple #[.int .i64 m,.int .i64 i])∧ ∃n,w'=w.drewN n):=fun w=>by
  have:=refDigits_any s (at_+1) (by omega) hs w
  rw[hD1]at this
  exact this
 rw[hD1]at hb1
 have hw1:wrap64 ((at_:Int)+1)=((at_+1:Nat):Int):=by unfold wrap64;omega
 have hi2:(i:Int)<(s.size:Int):=by omega
 have ti:=int_no (show¬i=s.size by omega)
 have t44:((s[i].toNat:Int)==44)=false:=u8n h44
 have t125:((s[i].toNat:Int)==125)=true:=u8y h125
 clear hlen hb1 hD1 h44 h125
 go_enter Tryz.func137,Tryz.ntmps137
 go_wp2_with (first
  |(refine box_piece rfl (.tmp 2) rfl (r:=r) rfl ?_;intro w1 b1 e1 p1 l1 z1)
  |(refine alloc_got rfl rfl ?_;intro w2 b2 e2 p2 l2 z2))
 have P2:=hid (p1.below l2)
 have G2:=hid p2
 have L2:=hid (l1.trans (l2.mono l1.size))
 have hwb:w.heap.size≤b1∧w.heap.size≤b2∧b1≠b2:=by omega
 have HWB:=hid hwb
 clear e1 p1 l1 z1 e2 p2 l2 z2 hwb
 refine(HC1.out _).mono ?_
 rintro e w3 ⟨rfl,n3,rfl⟩
 have P3:Hid (PBox (w2.drewN n3) b1 r):=P2
 have G3:Hid (GBox (w2.drewN n3) b2 zeroR 0 0 0):=G2
 have L3:Hid (Below w.heap.size w (w2.drewN n3)):=L2.out.trans ((below_draws w2 n3).mono L2.out.size)
 clear P2 G2 L2
 generalize w2.drewN n3=w3 at*
 go_wp2_with fail
 refine(refBad_any at_ 4 (by decide) _).mono ?_
 rintro e w5 ⟨l5,he,tq,rfl⟩
 have G5:=hid (G3.out.below l5)
 have L5:=hid (L3.out.trans (l5.mono L3.out.size))
 clear l5
 go_wp2_with (first
  |(refine store_got (r:=zeroR) (to:=tq) rfl (.tmp 6) (.tmp 83) rfl rfl rfl G5.out ?_;intro w6 p6 l6 z6))
 exact end_got rfl rfl p6 rfl ⟨L5.out.trans (l6.below L5.out.size HWB.out.2.1),by decide,tq,rfl⟩
theorem refTimes_one (hat:at_<s.size) (hs:s.size≤900) (hD1:digitsR s.data.toList (at_+1)=(m,i)) (HLO:Hid (lo≤w.heap.size)) (HP:Hid (PAt (In lo w.heap.size) w r p)) (hm: ¬m<0) (hi:i<s.size) (h44: ¬s[i]=44) (h125:s[i]=125) (hr: ¬m>100):
    Calls Tryz.prog 137 #[.string s,.int .i64 at_,.agg (rawA r)] w (GotsL lo w (.ok (.mk 9 ⟨#[]⟩ [p] m m) (i+1))):=by
 have hlen:s.data.toList.length=s.size:=(Lib.size_eq s).symm
 have hb1:=digitsR_bounds s.data.toList (at_+1) (by omega)
 have HC1:Hid (∀w,Calls Tryz.prog 156 #[.string s,.int .i64 ((at_+1:Nat):Int)] w fun e w'=>e= .returned (.tuple #[.int .i64 m,.int .i64 i])∧ ∃n,w'=w.drewN n):=fun w=>by
  have:=refDigits_any s (at_+1) (by omega) hs w
  rw[hD1]at this
  exact this
 rw[hD1]at hb1
 have hw1:wrap64 ((at_:Int)+1)=((at_+1:Nat):Int):=by unfold wrap64;omega
 have hi2:(i:Int)<(s.size:Int):=by omega
 have ti:=int_no (show¬i=s.size by omega)
 have t44:((s[i].toNat:Int)==44)=false:=u8n h44
 have t125:((s[i].toNat:Int)==125)=true:=u8y h125
 clear hlen hb1 hD1 h44 h125
 go_enter Tryz.func137,Tryz.ntmps137
 go_wp2_with (first
  |(refine box_piece rfl (.tmp 2) rfl (r:=r) rfl ?_;intro w1 b1 e1 p1 l1 z1)
  |(refine alloc_got rfl rfl ?_;intro w2 b2 e2 p2 l2 z2))
 have P2:=hid (p1.below l2)
 have G2:=hid p2
 have L2:=hid (l1.trans (l2.mono l1.size))
 have hwb:w.heap.size≤b1∧w.heap.size≤b2∧b1≠b2:=by omega
 have HWB:=hid hwb
 clear e1 p1 l1 z1 e2 p2 l2 z2 hwb
 refine(HC1.out _).mono ?_
 rintro e w3 ⟨rfl,n3,rfl⟩
 have P3:Hid (PBox (w2.drewN n3) b1 r):=P2
 have G3:Hid (GBox (w2.drewN n3) b2 zeroR 0 0 0):=G2
 have L3:Hid (Below w.heap.size w (w2.drewN n3)):=L2.out.trans ((below_draws w2 n3).mono L2.out.size)
 clear P2 G2 L2
 generalize w2.drewN n3=w3 at*
 have hwj:wrap64 ((i:Int)+1)=((i+1:Nat):Int):=by unfold wrap64;omega
 go_upto_region 13 with fail
 go_wp2_with (first
  |(refine load_piece rfl (.tmp 5) rfl rfl P3.out ?_)
  |(refine slice_piece rfl (.tmp 84) rfl (r:=r) rfl ?_;intro w6 b3 e6 r6 l6 z6;have G6:=G3.out.below l6)
  |(refine build_got (r:=⟨9,⟨#[]⟩,some ⟨b3,0,none⟩,1,1,m,m⟩) rfl (.tmp 88) (.tmp 90) rfl rfl rfl ?_)
  |(refine store_got (r:=⟨9,⟨#[]⟩,some ⟨b3,0,none⟩,1,1,m,m⟩) rfl (.tmp 6) (.tmp 91) rfl rfl rfl G6 ?_;intro w7 p7 l7 z7))
 have hwb:=HWB.out
 have L6:=L3.out.trans (l6.mono L3.out.size)
 have hz:=L3.out.size
 have hb2l:=G3.out.lt
 have hb3:b3<w6.heap.size:=by rw[z6];omega
 have hb31:b3≠b2:=by omega
 refine end_got rfl rfl p7 rfl ⟨L6.trans (l7.below L6.size hwb.2.1),_,rfl,.mk _ _ _ _ _ _ _ [r] [p] w7.heap.size ?_ ?_ rfl ?_⟩
 ·have r7:Raws w6.heap.size w7 (.slice (some ⟨b3,0,none⟩) 1 1) [r]:=raws_keep r6 fun ad e _ q hq=>by
    cases e
    exact cell_block (l7.block _ (by rw[hq];exact hb3) (by rw[hq];exact hb31))
  rw[z7];exact r7
 ·intro ad e _
  cases e
  exact⟨Nat.le_trans HLO.out (by rw[←e6];exact hz),by rw[z7];exact hb3⟩
 ·intro k i1 i2
  have i0:k=0:=by simp at i1;omega
  subst i0
  exact HP.out.by_below (L6.trans (l7.below L6.size hwb.2.1))
theorem refTimes_openEnd (hat:at_<s.size) (hs:s.size≤900) (hD1:digitsR s.data.toList (at_+1)=(m,i)) (hm: ¬m<0) (hi:i<s.size) (h44:s[i]=44) (hD2:digitsR s.data.toList (i+1)=(t,j)) (ht:t<0) (hj:j=s.size):
    Calls Tryz.prog 137 #[.string s,.int .i64 at_,.agg (rawA r)] w (GotsL lo w (.bad at_ 3)):=by
 have hlen:s.data.toList.length=s.size:=(Lib.size_eq s).symm
 have hb1:=digitsR_bounds s.data.toList (at_+1) (by omega)
 have HC1:Hid (∀w,Calls Tryz.prog 156 #[.string s,.int .i64 ((at_+1:Nat):Int)] w fun e w'=>e= .returned (.tuple #[.int .i64 m,.int .i64 i])∧ ∃n,w'=w.drewN n):=fun w=>by
  have:=refDigits_any s (at_+1) (by omega) hs w
  rw[hD1]at this
  exact this
 rw[hD1]at hb1
 have hw1:wrap64 ((at_:Int)+1)=((at_+1:Nat):Int):=by unfold wrap64;omega
 have hi2:(i:Int)<(s.size:Int):=by omega
 have ti:=int_no (show¬i=s.size by omega)
 have t44:((s[i].toNat:Int)==44)=true:=u8y h44
 have hb2:=digitsR_bounds s.data.toList (i+1) (by omega)
 have HC2:Hid (∀w,Calls Tryz.prog 156 #[.string s,.int .i64 ((i+1:Nat):Int)] w fun e w'=>e= .returned (.tuple #[.int .i64 t,.int .i64 j])∧ ∃n,w'=w.drewN n):=fun w=>by
  have:=refDigits_any s (i+1) (by omega) hs w
  rw[hD2]at this
  exact this
 rw[hD2]at hb2
 have hw2:wrap64 ((i:Int)+1)=((i+1:Nat):Int):=by unfold wrap64;omega
 have tj:=int_yes hj
 clear hlen hb1 hD1 h44 hb2 hD2 hj
 go_enter Tryz.func137,Tryz.ntmps137
 go_wp2_with (first
  |(refine box_piece rfl (.tmp 2) rfl (r:=r) rfl ?_;intro w1 b1 e1 p1 l1 z1)
  |(refine alloc_got rfl rfl ?_;intro w2 b2 e2 p2 l2 z2))
 have P2:=hid (p1.below l2)
 have G2:=hid p2
 have L2:=hid (l1.trans (l2.mono l1.size))
 have hwb:w.heap.size≤b1∧w.heap.size≤b2∧b1≠b2:=by omega
 have HWB:=hid hwb
 clear e1 p1 l1 z1 e2 p2 l2 z2 hwb
 refine(HC1.out _).mono ?_
 rintro e w3 ⟨rfl,n3,rfl⟩
 have P3:Hid (PBox (w2.drewN n3) b1 r):=P2
 have G3:Hid (GBox (w2.drewN n3) b2 zeroR 0 0 0):=G2
 have L3:Hid (Below w.heap.size w (w2.drewN n3)):=L2.out.trans ((below_draws w2 n3).mono L2.out.size)
 clear P2 G2 L2
 generalize w2.drewN n3=w3 at*
 go_wp2_with fail
 refine(HC2.out _).mono ?_
 rintro e w4 ⟨rfl,n4,rfl⟩
 have P4:Hid (PBox (w3.drewN n4) b1 r):=P3
 have G4:Hid (GBox (w3.drewN n4) b2 zeroR 0 0 0):=G3
 have L4:Hid (Below w.heap.size w (w3.drewN n4)):=L3.out.trans ((below_draws w3 n4).mono L3.out.size)
 clear P3 G3 L3
 generalize w3.drewN n4=w4 at*
 go_wp2_with fail
 refine(refBad_any at_ 3 (by decide) _).mono ?_
 rintro e w5 ⟨l5,he,tq,rfl⟩
 have G5:=hid (G4.out.below l5)
 have L5:=hid (L4.out.trans (l5.mono L4.out.size))
 clear l5
 go_wp2_with (first
  |(refine store_got (r:=zeroR) (to:=tq) rfl (.tmp 6) (.tmp 54) rfl rfl rfl G5.out ?_;intro w6 p6 l6 z6))
 exact end_got rfl rfl p6 rfl ⟨L5.out.trans (l6.below L5.out.size HWB.out.2.1),by decide,tq,rfl⟩
theorem refTimes_twoEnd (hat:at_<s.size) (hs:s.size≤900) (hD1:digitsR s.data.toList (at_+1)=(m,i)) (hm: ¬m<0) (hi:i<s.size) (h44:s[i]=44) (hD2:digitsR s.data.toList (i+1)=(t,j)) (ht: ¬t<0) (hj:j=s.size):
    Calls Tryz.prog 137 #[.string s,.int .i64 at_,.agg (rawA r)] w (GotsL lo w (.bad at_ 3)):=by
 have hlen:s.data.toList.length=s.size:=(Lib.size_eq s).symm
 have hb1:=digitsR_bounds s.data.toList (at_+1) (by omega)
 have HC1:Hid (∀w,Calls Tryz.prog 156 #[.string s,.int .i64 ((at_+1:Nat):Int)] w fun e w'=>e= .returned (.tuple #[.int .i64 m,.int .i64 i])∧ ∃n,w'=w.drewN n):=fun w=>by
  have:=refDigits_any s (at_+1) (by omega) hs w
  rw[hD1]at this
  exact this
 rw[hD1]at hb1
 have hw1:wrap64 ((at_:Int)+1)=((at_+1:Nat):Int):=by unfold wrap64;omega
 have hi2:(i:Int)<(s.size:Int):=by omega
 have ti:=int_no (show¬i=s.size by omega)
 have t44:((s[i].toNat:Int)==44)=true:=u8y h44
 have hb2:=digitsR_bounds s.data.toList (i+1) (by omega)
 have HC2:Hid (∀w,Calls Tryz.prog 156 #[.string s,.int .i64 ((i+1:Nat):Int)] w fun e w'=>e= .returned (.tuple #[.int .i64 t,.int .i64 j])∧ ∃n,w'=w.drewN n):=fun w=>by
  have:=refDigits_any s (i+1) (by omega) hs w
  rw[hD2]at this
  exact this
 rw[hD2]at hb2
 have hw2:wrap64 ((i:Int)+1)=((i+1:Nat):Int):=by unfold wrap64;omega
 have tj:=int_yes hj
 clear hlen hb1 hD1 h44 hb2 hD2 hj
 go_enter Tryz.func137,Tryz.ntmps137
 go_wp2_with (first
  |(refine box_piece rfl (.tmp 2) rfl (r:=r) rfl ?_;intro w1 b1 e1 p1 l1 z1)
  |(refine alloc_got rfl rfl ?_;intro w2 b2 e2 p2 l2 z2))
 have P2:=hid (p1.below l2)
 have G2:=hid p2
 have L2:=hid (l1.trans (l2.mono l1.size))
 have hwb:w.heap.size≤b1∧w.heap.size≤b2∧b1≠b2:=by omega
 have HWB:=hid hwb
 clear e1 p1 l1 z1 e2 p2 l2 z2 hwb
 refine(HC1.out _).mono ?_
 rintro e w3 ⟨rfl,n3,rfl⟩
 have P3:Hid (PBox (w2.drewN n3) b1 r):=P2
 have G3:Hid (GBox (w2.drewN n3) b2 zeroR 0 0 0):=G2
 have L3:Hid (Below w.heap.size w (w2.drewN n3)):=L2.out.trans ((below_draws w2 n3).mono L2.out.size)
 clear P2 G2 L2
 generalize w2.drewN n3=w3 at*
 go_wp2_with fail
 refine(HC2.out _).mono ?_
 rintro e w4 ⟨rfl,n4,rfl⟩
 have P4:Hid (PBox (w3.drewN n4) b1 r):=P3
 have G4:Hid (GBox (w3.drewN n4) b2 zeroR 0 0 0):=G3
 have L4:Hid (Below w.heap.size w (w3.drewN n4)):=L3.out.trans ((below_draws w3 n4).mono L3.out.size)
 clear P3 G3 L3
 generalize w3.drewN n4=w4 at*
 go_wp2_with fail
 refine(refBad_any at_ 3 (by decide) _).mono ?_
 rintro e w5 ⟨l5,he,tq,rfl⟩
 have G5:=hid (G4.out.below l5)
 have L5:=hid (L4.out.trans (l5.mono L4.out.size))
 clear l5
 go_wp2_with (first
  |(refine store_got (r:=zeroR) (to:=tq) rfl (.tmp 6) (.tmp 66) rfl rfl rfl G5.out ?_;intro w6 p6 l6 z6))
 exact end_got rfl rfl p6 rfl ⟨L5.out.trans (l6.below L5.out.size HWB.out.2.1),by decide,tq,rfl⟩
theorem refTimes_openBad (hat:at_<s.size) (hs:s.size≤900) (hD1:digitsR s.data.toList (at_+1)=(m,i)) (hm: ¬m<0) (hi:i<s.size) (h44:s[i]=44) (hD2:digitsR s.data.toList (i+1)=(t,j)) (ht:t<0) (hj:j<s.size) (h125: ¬s[j]=125):
    Calls Tryz.prog 137 #[.string s,.int .i64 at_,.agg (rawA r)] w (GotsL lo w (.bad at_ 3)):=by
 have hlen:s.data.toList.length=s.size:=(Lib.size_eq s).symm
 have hb1:=digitsR_bounds s.data.toList (at_+1) (by omega)
 have HC1:Hid (∀w,Calls Tryz.prog 156 #[.string s,.int .i64 ((at_+1:Nat):Int)] w fun e w'=>e= .returned (.tuple #[.int .i64 m,.int .i64 i])∧ ∃n,w'=w.drewN n):=fun w=>by
  have:=refDigits_any s (at_+1) (by omega) hs w
  rw[hD1]at this
  exact this
 rw[hD1]at hb1
 have hw1:wrap64 ((at_:Int)+1)=((at_+1:Nat):Int):=by unfold wrap64;omega
 have hi2:(i:Int)<(s.size:Int):=by omega
 have ti:=int_no (show¬i=s.size by omega)
 have t44:((s[i].toNat:Int)==44)=true:=u8y h44
 have hb2:=digitsR_bounds s.data.toList (i+1) (by omega)
 have HC2:Hid (∀w,Calls Tryz.prog 156 #[.string s,.int .i64 ((i+1:Nat):Int)] w fun e w'=>e= .returned (.tuple #[.int .i64 t,.int .i64 j])∧ ∃n,w'=w.drewN n):=fun w=>by
  have:=refDigits_any s (i+1) (by omega) hs w
  rw[hD2]at this
  exact this
 rw[hD2]at hb2
 have hw2:wrap64 ((i:Int)+1)=((i+1:Nat):Int):=by unfold wrap64;omega
 have hj2:(j:Int)<(s.size:Int):=by omega
 have tj:=int_no (show¬j=s.size by omega)
 have t125:((s[j].toNat:Int)==125)=false:=u8n h125
 clear hlen hb1 hD1 h44 hb2 hD2 h125
 go_enter Tryz.func137,Tryz.ntmps137
 go_wp2_with (first
  |(refine box_piece rfl (.tmp 2) rfl (r:=r) rfl ?_;intro w1 b1 e1 p1 l1 z1)
  |(refine alloc_got rfl rfl ?_;intro w2 b2 e2 p2 l2 z2))
 have P2:=hid (p1.below l2)
 have G2:=hid p2
 have L2:=hid (l1.trans (l2.mono l1.size))
 have hwb:w.heap.size≤b1∧w.heap.size≤b2∧b1≠b2:=by omega
 have HWB:=hid hwb
 clear e1 p1 l1 z1 e2 p2 l2 z2 hwb
 refine(HC1.out _).mono ?_
 rintro e w3 ⟨rfl,n3,rfl⟩
 have P3:Hid (PBox (w2.drewN n3) b1 r):=P2
 have G3:Hid (GBox (w2.drewN n3) b2 zeroR 0 0 0):=G2
 have L3:Hid (Below w.heap.size w (w2.drewN n3)):=L2.out.trans ((below_draws w2 n3).mono L2.out.size)
 clear P2 G2 L2
 generalize w2.drewN n3=w3 at*
 go_wp2_with fail
 refine(HC2.out _).mono ?_
 rintro e w4 ⟨rfl,n4,rfl⟩
 have P4:Hid (PBox (w3.drewN n4) b1 r):=P3
 have G4:Hid (GBox (w3.drewN n4) b2 zeroR 0 0 0):=G3
 have L4:Hid (Below w.heap.size w (w3.drewN n4)):=L3.out.trans ((below_draws w3 n4).mono L3.out.size)
 clear P3 G3 L3
 generalize w3.drewN n4=w4 at*
 go_wp2_with fail
 refine(refBad_any at_ 3 (by decide) _).mono ?_
 rintro e w5 ⟨l5,he,tq,rfl⟩
 have G5:=hid (G4.out.below l5)
 have L5:=hid (L4.out.trans (l5.mono L4.out.size))
 clear l5
 go_wp2_with (first
  |(refine store_got (r:=zeroR) (to:=tq) rfl (.tmp 6) (.tmp 54) rfl rfl rfl G5.out ?_;intro w6 p6 l6 z6))
 exact end_got rfl rfl p6 rfl ⟨L5.out.trans (l6.below L5.out.size HWB.out.2.1),by decide,tq,rfl⟩
theorem refTimes_twoBad (hat:at_<s.size) (hs:s.size≤900) (hD1:digitsR s.data.toList (at_+1)=(m,i)) (hm: ¬m<0) (hi:i<s.size) (h44:s[i]=44) (hD2:digitsR s.data.toList (i+1)=(t,j)) (ht: ¬t<0) (hj:j<s.size) (h125: ¬s[j]=125):
    Calls Tryz.prog 137 #[.string s,.int .i64 at_,.agg (rawA r)] w (GotsL lo w (.bad at_ 3)):=by
 have hlen:s.data.toList.length=s.size:=(Lib.size_eq s).symm
 have hb1:=digitsR_bounds s.data.toList (at_+1) (by omega)
 have HC1:Hid (∀w,Calls Tryz.prog 156 #[.string s,.int .i64 ((at_+1:Nat):Int)] w fun e w'=>e= .returned (.tuple #[.int .i64 m,.int .i64 i])∧ ∃n,w'=w.drewN n):=fun w=>by
  have:=refDigits_any s (at_+1) (by omega) hs w
  rw[hD1]at this
  exact this
 rw[hD1]at hb1
 have hw1:wrap64 ((at_:Int)+1)=((at_+1:Nat):Int):=by unfold wrap64;omega
 have hi2:(i:Int)<(s.size:Int):=by omega
 have ti:=int_no (show¬i=s.size by omega)
 have t44:((s[i].toNat:Int)==44)=true:=u8y h44
 have hb2:=digitsR_bounds s.data.toList (i+1) (by omega)
 have HC2:Hid (∀w,Calls Tryz.prog 156 #[.string s,.int .i64 ((i+1:Nat):Int)] w fun e w'=>e= .returned (.tuple #[.int .i64 t,.int .i64 j])∧ ∃n,w'=w.drewN n):=fun w=>by
  have:=refDigits_any s (i+1) (by omega) hs w
  rw[hD2]at this
  exact this
 rw[hD2]at hb2
 have hw2:wrap64 ((i:Int)+1)=((i+1:Nat):Int):=by unfold wrap64;omega
 have hj2:(j:Int)<(s.size:Int):=by omega
 have tj:=int_no (show¬j=s.size by omega)
 have t125:((s[j].toNat:Int)==125)=false:=u8n h125
 clear hlen hb1 hD1 h44 hb2 hD2 h125
 go_enter Tryz.func137,Tryz.ntmps137
 go_wp2_with (first
  |(refine box_piece rfl (.tmp 2) rfl (r:=r) rfl ?_;intro w1 b1 e1 p1 l1 z1)
  |(refine alloc_got rfl rfl ?_;intro w2 b2 e2 p2 l2 z2))
 have P2:=hid (p1.below l2)
 have G2:=hid p2
 have L2:=hid (l1.trans (l2.mono l1.size))
 have hwb:w.heap.size≤b1∧w.heap.size≤b2∧b1≠b2:=by omega
 have HWB:=hid hwb
 clear e1 p1 l1 z1 e2 p2 l2 z2 hwb
 refine(HC1.out _).mono ?_
 rintro e w3 ⟨rfl,n3,rfl⟩
 have P3:Hid (PBox (w2.drewN n3) b1 r):=P2
 have G3:Hid (GBox (w2.drewN n3) b2 zeroR 0 0 0):=G2
 have L3:Hid (Below w.heap.size w (w2.drewN n3)):=L2.out.trans ((below_draws w2 n3).mono L2.out.size)
 clear P2 G2 L2
 generalize w2.drewN n3=w3 at*
 go_wp2_with fail
 refine(HC2.out _).mono ?_
 rintro e w4 ⟨rfl,n4,rfl⟩
 have P4:Hid (PBox (w3.drewN n4) b1 r):=P3
 have G4:Hid (GBox (w3.drewN n4) b2 zeroR 0 0 0):=G3
 have L4:Hid (Below w.heap.size w (w3.drewN n4)):=L3.out.trans ((below_draws w3 n4).mono L3.out.size)
 clear P3 G3 L3
 generalize w3.drewN n4=w4 at*
 go_wp2_with fail
 refine(refBad_any at_ 3 (by decide) _).mono ?_
 rintro e w5 ⟨l5,he,tq,rfl⟩
 have G5:=hid (G4.out.below l5)
 have L5:=hid (L4.out.trans (l5.mono L4.out.size))
 clear l5
 go_wp2_with (first
  |(refine store_got (r:=zeroR) (to:=tq) rfl (.tmp 6) (.tmp 66) rfl rfl rfl G5.out ?_;intro w6 p6 l6 z6))
 exact end_got rfl rfl p6 rfl ⟨L5.out.trans (l6.below L5.out.size HWB.out.2.1),by decide,tq,rfl⟩
theorem refTimes_openFar (hat:at_<s.size) (hs:s.size≤900) (hD1:digitsR s.data.toList (at_+1)=(m,i)) (hm: ¬m<0) (hi:i<s.size) (h44:s[i]=44) (hD2:digitsR s.data.toList (i+1)=(t,j)) (ht:t<0) (hj:j<s.size) (h125:s[j]=125) (hr:m>100):
    Calls Tryz.prog 137 #[.string s,.int .i64 at_,.agg (rawA r)] w (GotsL lo w (.bad at_ 4)):=by
 have hlen:s.data.toList.length=s.size:=(Lib.size_eq s).symm
 have hb1:=digitsR_bounds s.data.toList (at_+1) (by omega)
 have HC1:Hid (∀w,Calls Tryz.prog 156 #[.string s,.int .i64 ((at_+1:Nat):Int)] w fun e w'=>e= .returned (.tuple #[.int .i64 m,.int .i64 i])∧ ∃n,w'=w.drewN n):=fun w=>by
  have:=refDigits_any s (at_+1) (by omega) hs w
  rw[hD1]at this
  exact this
 rw[hD1]at hb1
 have hw1:wrap64 ((at_:Int)+1)=((at_+1:Nat):Int):=by unfold wrap64;omega
 have hi2:(i:Int)<(s.size:Int):=by omega
 have ti:=int_no (show¬i=s.size by omega)
 have t44:((s[i].toNat:Int)==44)=true:=u8y h44
 have hb2:=digitsR_bounds s.data.toList (i+1) (by omega)
 have HC2:Hid (∀w,Calls Tryz.prog 156 #[.string s,.int .i64 ((i+1:Nat):Int)] w fun e w'=>e= .returned (.tuple #[.int .i64 t,.int .i64 j])∧ ∃n,w'=w.drewN n):=fun w=>by
  have:=refDigits_any s (i+1) (by omega) hs w
  rw[hD2]at this
  exact this
 rw[hD2]at hb2
 have hw2:wrap64 ((i:Int)+1)=((i+1:Nat):Int):=by unfold wrap64;omega
 have hj2:(j:Int)<(s.size:Int):=by omega
 have tj:=int_no (show¬j=s.size by omega)
 have t125:((s[j].toNat:Int)==125)=true:=u8y h125
 clear hlen hb1 hD1 h44 hb2 hD2 h125
 go_enter Tryz.func137,Tryz.ntmps137
 go_wp2_with (first
  |(refine box_piece rfl (.tmp 2) rfl (r:=r) rfl ?_;intro w1 b1 e1 p1 l1 z1)
  |(refine alloc_got rfl rfl ?_;intro w2 b2 e2 p2 l2 z2))
 have P2:=hid (p1.below l2)
 have G2:=hid p2
 have L2:=hid (l1.trans (l2.mono l1.size))
 have hwb:w.heap.size≤b1∧w.heap.size≤b2∧b1≠b2:=by omega
 have HWB:=hid hwb
 clear e1 p1 l1 z1 e2 p2 l2 z2 hwb
 refine(HC1.out _).mono ?_
 rintro e w3 ⟨rfl,n3,rfl⟩
 have P3:Hid (PBox (w2.drewN n3) b1 r):=P2
 have G3:Hid (GBox (w2.drewN n3) b2 zeroR 0 0 0):=G2
 have L3:Hid (Below w.heap.size w (w2.drewN n3)):=L2.out.trans ((below_draws w2 n3).mono L2.out.size)
 clear P2 G2 L2
 generalize w2.drewN n3=w3 at*
 go_wp2_with fail
 refine(HC2.out _).mono ?_
 rintro e w4 ⟨rfl,n4,rfl⟩
 have P4:Hid (PBox (w3.drewN n4) b1 r):=P3
 have G4:Hid (GBox (w3.drewN n4) b2 zeroR 0 0 0):=G3
 have L4:Hid (Below w.heap.size w (w3.drewN n4)):=L3.out.trans ((below_draws w3 n4).mono L3.out.size)
 clear P3 G3 L3
 generalize w3.drewN n4=w4 at*
 go_wp2_with fail
 refine(refBad_any at_ 4 (by decide) _).mono ?_
 rintro e w5 ⟨l5,he,tq,rfl⟩
 have G5:=hid (G4.out.below l5)
 have L5:=hid (L4.out.trans (l5.mono L4.out.size))
 clear l5
 go_wp2_with (first
  |(refine store_got (r:=zeroR) (to:=tq) rfl (.tmp 6) (.tmp 83) rfl rfl rfl G5.out ?_;intro w6 p6 l6 z6))
 exact end_got rfl rfl p6 rfl ⟨L5.out.trans (l6.below L5.out.size HWB.out.2.1),by decide,tq,rfl⟩
theorem refTimes_openOk (hat:at_<s.size) (hs:s.size≤900) (hD1:digitsR s.data.toList (at_+1)=(m,i)) (HLO:Hid (lo≤w.heap.size)) (HP:Hid (PAt (In lo w.heap.size) w r p)) (hm: ¬m<0) (hi:i<s.size) (h44:s[i]=44) (hD2:digitsR s.data.toList (i+1)=(t,j)) (ht:t<0) (hj:j<s.size) (h125:s[j]=125) (hr: ¬m>100):
    Calls Tryz.prog 137 #[.string s,.int .i64 at_,.agg (rawA r)] w (GotsL lo w (.ok (.mk 9 ⟨#[]⟩ [p] m t) (j+1))):=by
 have hlen:s.data.toList.length=s.size:=(Lib.size_eq s).symm
 have hb1:=digitsR_bounds s.data.toList (at_+1) (by omega)
 have HC1:Hid (∀w,Calls Tryz.prog 156 #[.string s,.int .i64 ((at_+1:Nat):Int)] w fun e w'=>e= .returned (.tuple #[.int .i64 m,.int .i64 i])∧ ∃n,w'=w.drewN n):=fun w=>by
  have:=refDigits_any s (at_+1) (by omega) hs w
  rw[hD1]at this
  exact this
 rw[hD1]at hb1
 have hw1:wrap64 ((at_:Int)+1)=((at_+1:Nat):Int):=by unfold wrap64;omega
 have hi2:(i:Int)<(s.size:Int):=by omega
 have ti:=int_no (show¬i=s.size by omega)
 have t44:((s[i].toNat:Int)==44)=true:=u8y h44
 have hb2:=digitsR_bounds s.data.toList (i+1) (by omega)
 have HC2:Hid (∀w,Calls Tryz.prog 156 #[.string s,.int .i64 ((i+1:Nat):Int)] w fun e w'=>e= .returned (.tuple #[.int .i64 t,.int .i64 j])∧ ∃n,w'=w.drewN n):=fun w=>by
  have:=refDigits_any s (i+1) (by omega) hs w
  rw[hD2]at this
  exact this
 rw[hD2]at hb2
 have hw2:wrap64 ((i:Int)+1)=((i+1:Nat):Int):=by unfold wrap64;omega
 have hj2:(j:Int)<(s.size:Int):=by omega
 have tj:=int_no (show¬j=s.size by omega)
 have t125:((s[j].toNat:Int)==125)=true:=u8y h125
 have d1:decide ((100:Int)<m)=false:=decide_eq_false (by omega)
 have d2:decide ((100:Int)<t)=false:=decide_eq_false (by omega)
 have d3:decide ((0:Int)≤t)=false:=decide_eq_false (by omega)
 have hwj:wrap64 ((j:Int)+1)=((j+1:Nat):Int):=by unfold wrap64;omega
 clear hr
 clear hlen hb1 hD1 h44 hb2 hD2 h125
 go_enter Tryz.func137,Tryz.ntmps137
 go_wp2_with (first
  |(refine box_piece rfl (.tmp 2) rfl (r:=r) rfl ?_;intro w1 b1 e1 p1 l1 z1)
  |(refine alloc_got rfl rfl ?_;intro w2 b2 e2 p2 l2 z2))
 have P2:=hid (p1.below l2)
 have G2:=hid p2
 have L2:=hid (l1.trans (l2.mono l1.size))
 have hwb:w.heap.size≤b1∧w.heap.size≤b2∧b1≠b2:=by omega
 have HWB:=hid hwb
 clear e1 p1 l1 z1 e2 p2 l2 z2 hwb
 refine(HC1.out _).mono ?_
 rintro e w3 ⟨rfl,n3,rfl⟩
 have P3:Hid (PBox (w2.drewN n3) b1 r):=P2
 have G3:Hid (GBox (w2.drewN n3) b2 zeroR 0 0 0):=G2
 have L3:Hid (Below w.heap.size w (w2.drewN n3)):=L2.out.trans ((below_draws w2 n3).mono L2.out.size)
 clear P2 G2 L2
 generalize w2.drewN n3=w3 at*
 go_wp2_with fail
 refine(HC2.out _).mono ?_
 rintro e w4 ⟨rfl,n4,rfl⟩
 have P4:Hid (PBox (w3.drewN n4) b1 r):=P3
 have G4:Hid (GBox (w3.drewN n4) b2 zeroR 0 0 0):=G3
 have L4:Hid (Below w.heap.size w (w3.drewN n4)):=L3.out.trans ((below_draws w3 n4).mono L3.out.size)
 clear P3 G3 L3
 generalize w3.drewN n4=w4 at*
 go_upto_region 13 with fail
 go_wp2_with (first
  |(refine load_piece rfl (.tmp 5) rfl rfl P4.out ?_)
  |(refine slice_piece rfl (.tmp 84) rfl (r:=r) rfl ?_;intro w6 b3 e6 r6 l6 z6;have G6:=G4.out.below l6)
  |(refine build_got (r:=⟨9,⟨#[]⟩,some ⟨b3,0,none⟩,1,1,m,t⟩) rfl (.tmp 88) (.tmp 90) rfl rfl rfl ?_)
  |(refine store_got (r:=⟨9,⟨#[]⟩,some ⟨b3,0,none⟩,1,1,m,t⟩) rfl (.tmp 6) (.tmp 91) rfl rfl rfl G6 ?_;intro w7 p7 l7 z7))
 have hwb:=HWB.out
 have L6:=L4.out.trans (l6.mono L4.out.size)
 have hz:=L4.out.size
 have hb2l:=G4.out.lt
 have hb3:b3<w6.heap.size:=by rw[z6];omega
 have hb31:b3≠b2:=by omega
 refine end_got rfl rfl p7 rfl ⟨L6.trans (l7.below L6.size hwb.2.1),_,rfl,.mk _ _ _ _ _ _ _ [r] [p] w7.heap.size ?_ ?_ rfl ?_⟩
 ·have r7:Raws w6.heap.size w7 (.slice (some ⟨b3,0,none⟩) 1 1) [r]:=raws_keep r6 fun ad e _ q hq=>by
    cases e
    exact cell_block (l7.block _ (by rw[hq];exact hb3) (by rw[hq];exact hb31))
  rw[z7];exact r7
 ·intro ad e _
  cases e
  exact⟨Nat.le_trans HLO.out (by rw[←e6];exact hz),by rw[z7];exact hb3⟩
 ·intro k i1 i2
  have i0:k=0:=by simp at i1;omega
  subst i0
  exact HP.out.by_below (L6.trans (l7.below L6.size hwb.2.1))
theorem refTimes_twoFar (hat:at_<s.size) (hs:s.size≤900) (hD1:digitsR s.data.toList (at_+1)=(m,i)) (hm: ¬m<0) (hi:i<s.size) (h44:s[i]=44) (hD2:digitsR s.data.toList (i+1)=(t,j)) (ht: ¬t<0) (hj:j<s.size) (h125:s[j]=125) (hr:m>100):
    Calls Tryz.prog 137 #[.string s,.int .i64 at_,.agg (rawA r)] w (GotsL lo w (.bad at_ 4)):=by
 have hlen:s.data.toList.length=s.size:=(Lib.size_eq s).symm
 have hb1:=digitsR_bounds s.data.toList (at_+1) (by omega)
 have HC1:Hid (∀w,Calls Tryz.prog 156 #[.string s,.int .i64 ((at_+1:Nat):Int)] w fun e w'=>e= .returned (.tuple #[.int .i64 m,.int .i64 i])∧ ∃n,w'=w.drewN n):=fun w=>by
  have:=refDigits_any s (at_+1) (by omega) hs w
  rw[hD1]at this
  exact this
 rw[hD1]at hb1
 have hw1:wrap64 ((at_:Int)+1)=((at_+1:Nat):Int):=by unfold wrap64;omega
 have hi2:(i:Int)<(s.size:Int):=by omega
 have ti:=int_no (show¬i=s.size by omega)
 have t44:((s[i].toNat:Int)==44)=true:=u8y h44
 have hb2:=digitsR_bounds s.data.toList (i+1) (by omega)
 have HC2:Hid (∀w,Calls Tryz.prog 156 #[.string s,.int .i64 ((i+1:Nat):Int)] w fun e w'=>e= .returned (.tuple #[.int .i64 t,.int .i64 j])∧ ∃n,w'=w.drewN n):=fun w=>by
  have:=refDigits_any s (i+1) (by omega) hs w
  rw[hD2]at this
  exact this
 rw[hD2]at hb2
 have hw2:wrap64 ((i:Int)+1)=((i+1:Nat):Int):=by unfold wrap64;omega
 have hj2:(j:Int)<(s.size:Int):=by omega
 have tj:=int_no (show¬j=s.size by omega)
 have t125:((s[j].toNat:Int)==125)=true:=u8y h125
 clear hlen hb1 hD1 h44 hb2 hD2 h125
 go_enter Tryz.func137,Tryz.ntmps137
 go_wp2_with (first
  |(refine box_piece rfl (.tmp 2) rfl (r:=r) rfl ?_;intro w1 b1 e1 p1 l1 z1)
  |(refine alloc_got rfl rfl ?_;intro w2 b2 e2 p2 l2 z2))
 have P2:=hid (p1.below l2)
 have G2:=hid p2
 have L2:=hid (l1.trans (l2.mono l1.size))
 have hwb:w.heap.size≤b1∧w.heap.size≤b2∧b1≠b2:=by omega
 have HWB:=hid hwb
 clear e1 p1 l1 z1 e2 p2 l2 z2 hwb
 refine(HC1.out _).mono ?_
 rintro e w3 ⟨rfl,n3,rfl⟩
 have P3:Hid (PBox (w2.drewN n3) b1 r):=P2
 have G3:Hid (GBox (w2.drewN n3) b2 zeroR 0 0 0):=G2
 have L3:Hid (Below w.heap.size w (w2.drewN n3)):=L2.out.trans ((below_draws w2 n3).mono L2.out.size)
 clear P2 G2 L2
 generalize w2.drewN n3=w3 at*
 go_wp2_with fail
 refine(HC2.out _).mono ?_
 rintro e w4 ⟨rfl,n4,rfl⟩
 have P4:Hid (PBox (w3.drewN n4) b1 r):=P3
 have G4:Hid (GBox (w3.drewN n4) b2 zeroR 0 0 0):=G3
 have L4:Hid (Below w.heap.size w (w3.drewN n4)):=L3.out.trans ((below_draws w3 n4).mono L3.out.size)
 clear P3 G3 L3
 generalize w3.drewN n4=w4 at*
 go_wp2_with fail
 refine(refBad_any at_ 4 (by decide) _).mono ?_
 rintro e w5 ⟨l5,he,tq,rfl⟩
 have G5:=hid (G4.out.below l5)
 have L5:=hid (L4.out.trans (l5.mono L4.out.size))
 clear l5
 go_wp2_with (first
  |(refine store_got (r:=zeroR) (to:=tq) rfl (.tmp 6) (.tmp 83) rfl rfl rfl G5.out ?_;intro w6 p6 l6 z6))
 exact end_got rfl rfl p6 rfl ⟨L5.out.trans (l6.below L5.out.size HWB.out.2.1),by decide,tq,rfl⟩
theorem refTimes_twoFar2 (hat:at_<s.size) (hs:s.size≤900) (hD1:digitsR s.data.toList (at_+1)=(m,i)) (hm: ¬m<0) (hi:i<s.size) (h44:s[i]=44) (hD2:digitsR s.data.toList (i+1)=(t,j)) (_ht: ¬t<0) (hj:j<s.size) (h125:s[j]=125) (hr: ¬m>100) (hr2:t>100):
    Calls Tryz.prog 137 #[.string s,.int .i64 at_,.agg (rawA r)] w (GotsL lo w (.bad at_ 4)):=by
 have hlen:s.data.toList.length=s.size:=(Lib.size_eq s).symm
 have hb1:=digitsR_bounds s.data.toList (at_+1) (by omega)
 have HC1:Hid (∀w,Calls Tryz.prog 156 #[.string s,.int .i64 ((at_+1:Nat):Int)] w fun e w'=>e= .returned (.tuple #[.int .i64 m,.int .i64 i])∧ ∃n,w'=w.drewN n):=fun w=>by
  have:=refDigits_any s (at_+1) (by omega) hs w
  rw[hD1]at this
  exact this
 rw[hD1]at hb1
 have hw1:wrap64 ((at_:Int)+1)=((at_+1:Nat):Int):=by unfold wrap64;omega
 have hi2:(i:Int)<(s.size:Int):=by omega
 have ti:=int_no (show¬i=s.size by omega)
 have t44:((s[i].toNat:Int)==44)=true:=u8y h44
 have hb2:=digitsR_bounds s.data.toList (i+1) (by omega)
 have HC2:Hid (∀w,Calls Tryz.prog 156 #[.string s,.int .i64 ((i+1:Nat):Int)] w fun e w'=>e= .returned (.tuple #[.int .i64 t,.int .i64 j])∧ ∃n,w'=w.drewN n):=fun w=>by
  have:=refDigits_any s (i+1) (by omega) hs w
  rw[hD2]at this
  exact this
 rw[hD2]at hb2
 have hw2:wrap64 ((i:Int)+1)=((i+1:Nat):Int):=by unfold wrap64;omega
 have hj2:(j:Int)<(s.size:Int):=by omega
 have tj:=int_no (show¬j=s.size by omega)
 have t125:((s[j].toNat:Int)==125)=true:=u8y h125
 clear hlen hb1 hD1 h44 hb2 hD2 h125
 go_enter Tryz.func137,Tryz.ntmps137
 go_wp2_with (first
  |(refine box_piece rfl (.tmp 2) rfl (r:=r) rfl ?_;intro w1 b1 e1 p1 l1 z1)
  |(refine alloc_got rfl rfl ?_;intro w2 b2 e2 p2 l2 z2))
 have P2:=hid (p1.below l2)
 have G2:=hid p2
 have L2:=hid (l1.trans (l2.mono l1.size))
 have hwb:w.heap.size≤b1∧w.heap.size≤b2∧b1≠b2:=by omega
 have HWB:=hid hwb
 clear e1 p1 l1 z1 e2 p2 l2 z2 hwb
 refine(HC1.out _).mono ?_
 rintro e w3 ⟨rfl,n3,rfl⟩
 have P3:Hid (PBox (w2.drewN n3) b1 r):=P2
 have G3:Hid (GBox (w2.drewN n3) b2 zeroR 0 0 0):=G2
 have L3:Hid (Below w.heap.size w (w2.drewN n3)):=L2.out.trans ((below_draws w2 n3).mono L2.out.size)
 clear P2 G2 L2
 generalize w2.drewN n3=w3 at*
 go_wp2_with fail
 refine(HC2.out _).mono ?_
 rintro e w4 ⟨rfl,n4,rfl⟩
 have P4:Hid (PBox (w3.drewN n4) b1 r):=P3
 have G4:Hid (GBox (w3.drewN n4) b2 zeroR 0 0 0):=G3
 have L4:Hid (Below w.heap.size w (w3.drewN n4)):=L3.out.trans ((below_draws w3 n4).mono L3.out.size)
 clear P3 G3 L3
 generalize w3.drewN n4=w4 at*
 go_wp2_with fail
 refine(refBad_any at_ 4 (by decide) _).mono ?_
 rintro e w5 ⟨l5,he,tq,rfl⟩
 have G5:=hid (G4.out.below l5)
 have L5:=hid (L4.out.trans (l5.mono L4.out.size))
 clear l5
 go_wp2_with (first
  |(refine store_got (r:=zeroR) (to:=tq) rfl (.tmp 6) (.tmp 83) rfl rfl rfl G5.out ?_;intro w6 p6 l6 z6))
 exact end_got rfl rfl p6 rfl ⟨L5.out.trans (l6.below L5.out.size HWB.out.2.1),by decide,tq,rfl⟩
theorem refTimes_twoLess (hat:at_<s.size) (hs:s.size≤900) (hD1:digitsR s.data.toList (at_+1)=(m,i)) (hm: ¬m<0) (hi:i<s.size) (h44:s[i]=44) (hD2:digitsR s.data.toList (i+1)=(t,j)) (ht: ¬t<0) (hj:j<s.size) (h125:s[j]=125) (hr: ¬m>100) (hr2: ¬t>100) (hr3:m>t):
    Calls Tryz.prog 137 #[.string s,.int .i64 at_,.agg (rawA r)] w (GotsL lo w (.bad at_ 4)):=by
 have hlen:s.data.toList.length=s.size:=(Lib.size_eq s).symm
 have hb1:=digitsR_bounds s.data.toList (at_+1) (by omega)
 have HC1:Hid (∀w,Calls Tryz.prog 156 #[.string s,.int .i64 ((at_+1:Nat):Int)] w fun e w'=>e= .returned (.tuple #[.int .i64 m,.int .i64 i])∧ ∃n,w'=w.drewN n):=fun w=>by
  have:=refDigits_any s (at_+1) (by omega) hs w
  rw[hD1]at this
  exact this
 rw[hD1]at hb1
 have hw1:wrap64 ((at_:Int)+1)=((at_+1:Nat):Int):=by unfold wrap64;omega
 have hi2:(i:Int)<(s.size:Int):=by omega
 have ti:=int_no (show¬i=s.size by omega)
 have t44:((s[i].toNat:Int)==44)=true:=u8y h44
 have hb2:=digitsR_bounds s.data.toList (i+1) (by omega)
 have HC2:Hid (∀w,Calls Tryz.prog 156 #[.string s,.int .i64 ((i+1:Nat):Int)] w fun e w'=>e= .returned (.tuple #[.int .i64 t,.int .i64 j])∧ ∃n,w'=w.drewN n):=fun w=>by
  have:=refDigits_any s (i+1) (by omega) hs w
  rw[hD2]at this
  exact this
 rw[hD2]at hb2
 have hw2:wrap64 ((i:Int)+1)=((i+1:Nat):Int):=by unfold wrap64;omega
 have hj2:(j:Int)<(s.size:Int):=by omega
 have tj:=int_no (show¬j=s.size by omega)
 have t125:((s[j].toNat:Int)==125)=true:=u8y h125
 clear hlen hb1 hD1 h44 hb2 hD2 h125
 go_enter Tryz.func137,Tryz.ntmps137
 go_wp2_with (first
  |(refine box_piece rfl (.tmp 2) rfl (r:=r) rfl ?_;intro w1 b1 e1 p1 l1 z1)
  |(refine alloc_got rfl rfl ?_;intro w2 b2 e2 p2 l2 z2))
 have P2:=hid (p1.below l2)
 have G2:=hid p2
 have L2:=hid (l1.trans (l2.mono l1.size))
 have hwb:w.heap.size≤b1∧w.heap.size≤b2∧b1≠b2:=by omega
 have HWB:=hid hwb
 clear e1 p1 l1 z1 e2 p2 l2 z2 hwb
 refine(HC1.out _).mono ?_
 rintro e w3 ⟨rfl,n3,rfl⟩
 have P3:Hid (PBox (w2.drewN n3) b1 r):=P2
 have G3:Hid (GBox (w2.drewN n3) b2 zeroR 0 0 0):=G2
 have L3:Hid (Below w.heap.size w (w2.drewN n3)):=L2.out.trans ((below_draws w2 n3).mono L2.out.size)
 clear P2 G2 L2
 generalize w2.drewN n3=w3 at*
 go_wp2_with fail
 refine(HC2.out _).mono ?_
 rintro e w4 ⟨rfl,n4,rfl⟩
 have P4:Hid (PBox (w3.drewN n4) b1 r):=P3
 have G4:Hid (GBox (w3.drewN n4) b2 zeroR 0 0 0):=G3
 have L4:Hid (Below w.heap.size w (w3.drewN n4)):=L3.out.trans ((below_draws w3 n4).mono L3.out.size)
 clear P3 G3 L3
 generalize w3.drewN n4=w4 at*
 go_wp2_with fail
 refine(refBad_any at_ 4 (by decide) _).mono ?_
 rintro e w5 ⟨l5,he,tq,rfl⟩
 have G5:=hid (G4.out.below l5)
 have L5:=hid (L4.out.trans (l5.mono L4.out.size))
 clear l5
 go_wp2_with (first
  |(refine store_got (r:=zeroR) (to:=tq) rfl (.tmp 6) (.tmp 83) rfl rfl rfl G5.out ?_;intro w6 p6 l6 z6))
 exact end_got rfl rfl p6 rfl ⟨L5.out.trans (l6.below L5.out.size HWB.out.2.1),by decide,tq,rfl⟩
theorem refTimes_twoOk (hat:at_<s.size) (hs:s.size≤900) (hD1:digitsR s.data.toList (at_+1)=(m,i)) (HLO:Hid (lo≤w.heap.size)) (HP:Hid (PAt (In lo w.heap.size) w r p)) (hm: ¬m<0) (hi:i<s.size) (h44:s[i]=44) (hD2:digitsR s.data.toList (i+1)=(t,j)) (ht: ¬t<0) (hj:j<s.size) (h125:s[j]=125) (hr: ¬m>100) (hr2: ¬t>100) (hr3: ¬m>t):
    Calls Tryz.prog 137 #[.string s,.int .i64 at_,.agg (rawA r)] w (GotsL lo w (.ok (.mk 9 ⟨#[]⟩ [p] m t) (j+1))):=by
 have hlen:s.data.toList.length=s.size:=(Lib.size_eq s).symm
 have hb1:=digitsR_bounds s.data.toList (at_+1) (by omega)
 have HC1:Hid (∀w,Calls Tryz.prog 156 #[.string s,.int .i64 ((at_+1:Nat):Int)] w fun e w'=>e= .returned (.tuple #[.int .i64 m,.int .i64 i])∧ ∃n,w'=w.drewN n):=fun w=>by
  have:=refDigits_any s (at_+1) (by omega) hs w
  rw[hD1]at this
  exact this
 rw[hD1]at hb1
 have hw1:wrap64 ((at_:Int)+1)=((at_+1:Nat):Int):=by unfold wrap64;omega
 have hi2:(i:Int)<(s.size:Int):=by omega
 have ti:=int_no (show¬i=s.size by omega)
 have t44:((s[i].toNat:Int)==44)=true:=u8y h44
 have hb2:=digitsR_bounds s.data.toList (i+1) (by omega)
 have HC2:Hid (∀w,Calls Tryz.prog 156 #[.string s,.int .i64 ((i+1:Nat):Int)] w fun e w'=>e= .returned (.tuple #[.int .i64 t,.int .i64 j])∧ ∃n,w'=w.drewN n):=fun w=>by
  have:=refDigits_any s (i+1) (by omega) hs w
  rw[hD2]at this
  exact this
 rw[hD2]at hb2
 have hw2:wrap64 ((i:Int)+1)=((i+1:Nat):Int):=by unfold wrap64;omega
 have hj2:(j:Int)<(s.size:Int):=by omega
 have tj:=int_no (show¬j=s.size by omega)
 have t125:((s[j].toNat:Int)==125)=true:=u8y h125
 have d1:decide ((100:Int)<m)=false:=decide_eq_false (by omega)
 have d2:decide ((100:Int)<t)=false:=decide_eq_false (by omega)
 have d3:decide ((0:Int)≤t)=true:=decide_eq_true (by omega)
 have d4:decide (t<m)=false:=decide_eq_false (by omega)
 have hwj:wrap64 ((j:Int)+1)=((j+1:Nat):Int):=by unfold wrap64;omega
 clear hr hr2 hr3
 clear hlen hb1 hD1 h44 hb2 hD2 h125
 go_enter Tryz.func137,Tryz.ntmps137
 go_wp2_with (first
  |(refine box_piece rfl (.tmp 2) rfl (r:=r) rfl ?_;intro w1 b1 e1 p1 l1 z1)
  |(refine alloc_got rfl rfl ?_;intro w2 b2 e2 p2 l2 z2))
 have P2:=hid (p1.below l2)
 have G2:=hid p2
 have L2:=hid (l1.trans (l2.mono l1.size))
 have hwb:w.heap.size≤b1∧w.heap.size≤b2∧b1≠b2:=by omega
 have HWB:=hid hwb
 clear e1 p1 l1 z1 e2 p2 l2 z2 hwb
 refine(HC1.out _).mono ?_
 rintro e w3 ⟨rfl,n3,rfl⟩
 have P3:Hid (PBox (w2.drewN n3) b1 r):=P2
 have G3:Hid (GBox (w2.drewN n3) b2 zeroR 0 0 0):=G2
 have L3:Hid (Below w.heap.size w (w2.drewN n3)):=L2.out.trans ((below_draws w2 n3).mono L2.out.size)
 clear P2 G2 L2
 generalize w2.drewN n3=w3 at*
 go_wp2_with fail
 refine(HC2.out _).mono ?_
 rintro e w4 ⟨rfl,n4,rfl⟩
 have P4:Hid (PBox (w3.drewN n4) b1 r):=P3
 have G4:Hid (GBox (w3.drewN n4) b2 zeroR 0 0 0):=G3
 have L4:Hid (Below w.heap.size w (w3.drewN n4)):=L3.out.trans ((below_draws w3 n4).mono L3.out.size)
 clear P3 G3 L3
 generalize w3.drewN n4=w4 at*
 go_upto_region 13 with fail
 go_wp2_with (first
  |(refine load_piece rfl (.tmp 5) rfl rfl P4.out ?_)
  |(refine slice_piece rfl (.tmp 84) rfl (r:=r) rfl ?_;intro w6 b3 e6 r6 l6 z6;have G6:=G4.out.below l6)
  |(refine build_got (r:=⟨9,⟨#[]⟩,some ⟨b3,0,none⟩,1,1,m,t⟩) rfl (.tmp 88) (.tmp 90) rfl rfl rfl ?_)
  |(refine store_got (r:=⟨9,⟨#[]⟩,some ⟨b3,0,none⟩,1,1,m,t⟩) rfl (.tmp 6) (.tmp 91) rfl rfl rfl G6 ?_;intro w7 p7 l7 z7))
 have hwb:=HWB.out
 have L6:=L4.out.trans (l6.mono L4.out.size)
 have hz:=L4.out.size
 have hb2l:=G4.out.lt
 have hb3:b3<w6.heap.size:=by rw[z6];omega
 have hb31:b3≠b2:=by omega
 refine end_got rfl rfl p7 rfl ⟨L6.trans (l7.below L6.size hwb.2.1),_,rfl,.mk _ _ _ _ _ _ _ [r] [p] w7.heap.size ?_ ?_ rfl ?_⟩
 ·have r7:Raws w6.heap.size w7 (.slice (some ⟨b3,0,none⟩) 1 1) [r]:=raws_keep r6 fun ad e _ q hq=>by
    cases e
    exact cell_block (l7.block _ (by rw[hq];exact hb3) (by rw[hq];exact hb31))
  rw[z7];exact r7
 ·intro ad e _
  cases e
  exact⟨Nat.le_trans HLO.out (by rw[←e6];exact hz),by rw[z7];exact hb3⟩
 ·intro k i1 i2
  have i0:k=0:=by simp at i1;omega
  subst i0
  exact HP.out.by_below (L6.trans (l7.below L6.size hwb.2.1))
def timesGot (S:List UInt8) (p:Piece) (at_:Nat):Got:=if(timesG S at_).1≠0 then .bad at_ (timesG S at_).1 else .ok (.mk 9 ⟨#[]⟩ [p] (timesG S at_).2.1 (timesG S at_).2.2.1) (at_+(timesG S at_).2.2.2)
theorem got_bad {S:List UInt8} {p:Piece} {er:Int} {x:Int×Int×Nat} (h:timesG S at_=(er,x)) (he:er≠0):timesGot S p at_= .bad at_ er:=by unfold timesGot;rw[h,if_pos he]
theorem got_ok {S:List UInt8} {p:Piece} {n:Nat} (h:timesG S at_=(0,m,t,n+1-at_)) (hn:at_≤n):timesGot S p at_= .ok (.mk 9 ⟨#[]⟩ [p] m t) (n+1):=by
 unfold timesGot
 rw[h,if_neg (by simp)]
 simp only
 rw[show at_+(n+1-at_)=n+1 by omega]
theorem getD_end {s:ByteArray} {i:Nat} (h: ¬i<s.size):s.data.toList.getD i 0=0:=by
 rw[List.getD_eq_getElem?_getD,List.getElem?_eq_none (by rw[←Lib.size_eq];omega)];rfl
theorem refTimes_any (hat:at_<s.size) (hs:s.size≤900) (hlo:lo≤w.heap.size) (hp:PAt (In lo w.heap.size) w r p):
    Calls Tryz.prog 137 #[.string s,.int .i64 at_,.agg (rawA r)] w (GotsL lo w (timesGot s.data.toList p at_)):=by
 have hlen:s.data.toList.length=s.size:=(Lib.size_eq s).symm
 have hb1:=digitsR_bounds s.data.toList (at_+1) (by omega)
 obtain⟨⟨m,i⟩,hD1⟩: ∃d,digitsR s.data.toList (at_+1)=d:=⟨_,rfl⟩
 rw[hD1]at hb1
 simp only at hb1
 have e0:timesG s.data.toList at_=if m<0 then no3 else if s.data.toList.getD i 0=44 then(if s.data.toList.getD (digitsR s.data.toList (i+1)).2 0=125 then range m (digitsR s.data.toList (i+1)).1 ((digitsR s.data.toList (i+1)).2+1-at_)else no3)else if s.data.toList.getD i 0=125 then range m m (i+1-at_)else no3:=by unfold timesG;rw[hD1]
 by_cases hm:m<0
 ·rw[if_pos hm]at e0
  rw[got_bad e0 (by decide)];exact refTimes_none hat hs hD1 hm
 ·rw[if_neg hm]at e0
  by_cases hi:i<s.size
  ·rw[getD_at' hi]at e0
   by_cases h44:s[i]=44
   ·rw[if_pos h44]at e0
    have hb2:=digitsR_bounds s.data.toList (i+1) (by omega)
    obtain⟨⟨t,j⟩,hD2⟩: ∃d,digitsR s.data.toList (i+1)=d:=⟨_,rfl⟩
    rw[hD2]at hb2 e0
    simp only at hb2 e0
    by_cases hj:j<s.size
    ·rw[getD_at' hj]at e0
     by_cases h125:s[j]=125
     ·rw[if_pos h125]at e0
      unfold range at e0
      by_cases ht:t<0
      ·by_cases hr:m>100
       ·rw[if_pos (Or.inl hr)]at e0
        rw[got_bad e0 (by decide)];exact refTimes_openFar hat hs hD1 hm hi h44 hD2 ht hj h125 hr
       ·rw[if_neg (by omega)]at e0
        rw[got_ok e0 (by omega)];exact refTimes_openOk hat hs hD1 hlo hp hm hi h44 hD2 ht hj h125 hr
      ·by_cases hr:m>100
       ·rw[if_pos (Or.inl hr)]at e0
        rw[got_bad e0 (by decide)];exact refTimes_twoFar hat hs hD1 hm hi h44 hD2 ht hj h125 hr
       ·by_cases hr2:t>100
        ·rw[if_pos (Or.inr (Or.inl hr2))]at e0
         rw[got_bad e0 (by decide)];exact refTimes_twoFar2 hat hs hD1 hm hi h44 hD2 ht hj h125 hr hr2
        ·by_cases hr3:m>t
         ·rw[if_pos (by omega)]at e0
          rw[got_bad e0 (by decide)];exact refTimes_twoLess hat hs hD1 hm hi h44 hD2 ht hj h125 hr hr2 hr3
         ·rw[if_neg (by omega)]at e0
          rw[got_ok e0 (by omega)];exact refTimes_twoOk hat hs hD1 hlo hp hm hi h44 hD2 ht hj h125 hr hr2 hr3
     ·rw[if_neg h125]at e0
      rw[got_bad e0 (by decide)]
      by_cases ht:t<0
      ·exact refTimes_openBad hat hs hD1 hm hi h44 hD2 ht hj h125
      ·exact refTimes_twoBad hat hs hD1 hm hi h44 hD2 ht hj h125
    ·rw[getD_end hj,if_neg (by decide)]at e0
     rw[got_bad e0 (by decide)]
     by_cases ht:t<0
     ·exact refTimes_openEnd hat hs hD1 hm hi h44 hD2 ht (by omega)
     ·exact refTimes_twoEnd hat hs hD1 hm hi h44 hD2 ht (by omega)
   ·rw[if_neg h44]at e0
    by_cases h125:s[i]=125
    ·rw[if_pos h125]at e0
     unfold range at e0
     by_cases hr:m>100
     ·rw[if_pos (Or.inl hr)]at e0
      rw[got_bad e0 (by decide)];exact refTimes_oneBad hat hs hD1 hm hi h44 h125 hr
     ·rw[if_neg (by omega)]at e0
      rw[got_ok e0 (by omega)];exact refTimes_one hat hs hD1 hlo hp hm hi h44 h125 hr
    ·rw[if_neg h125]at e0
     rw[got_bad e0 (by decide)];exact refTimes_other hat hs hD1 hm hi h44 h125
  ·rw[getD_end hi,if_neg (by decide),if_neg (by decide)]at e0
   rw[got_bad e0 (by decide)];exact refTimes_end hat hs hD1 hm (by omega)
end
end W14
end Go.Proofs.YtfgegjinhkgpbaaGreatDoor
