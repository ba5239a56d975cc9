/-
  Texts joined, in build order, each with its own comment and its own conditions: W14Set, W14Brackets, W15Seq, W15Patch, W15Steps, W16Math.
-/
import Derived.Test.YtfgegjinhkgpbaaGreatDoorJ07
import Derived.Deep.RegionHeld3
import Derived.Test.YtfgegjinhkgpbaaGreatDoorJ05
import Derived.Deep.LoopGhost
import Derived.Test.YtfgegjinhkgpbaaGreatDoorJ04
import Derived.Test.YtfgegjinhkgpbaaGreatDoorJ06
namespace Go.Proofs.YtfgegjinhkgpbaaGreatDoor
set_option maxHeartbeats 4000000
set_option maxRecDepth 100000
open Go.RowKit
open Lib (hid)
namespace W14
open Cj
open BU (Beside)
open Kit (Au AX BO CL Ae BM below_draws on Ap Bl Az Bb)
def Reads (rb:Nat) (s:ByteArray) (deep:Nat) (w:World) (g:Dg) (e:Ending) (w':World):Prop:=
 Beside rb w w'/\match g with
 | .ok p to=> ∃r,e= .returned (.tuple #[.agg (Ak r),.int .i64 0])/\Reader w' rb s to deep/\DF (In w.heap.size w'.heap.size) w' r p
 | .bad b er=>er≠0/\e= .returned (.tuple #[.agg (Ak Af),.int .i64 er])/\ ∃d,Reader w' rb s b d
section
variable {wr W w1:World} {b:Nat} {s:ByteArray} {at_:Nat}
def RS (wr:World) (b:Nat) (s:ByteArray) (at_:Nat) (W:World):Prop:=W.cell? ⟨b,0,none⟩=some (.string s)/\W.cell? ⟨b,1,none⟩=some (.int .i64 at_)/\Below wr.heap.size wr W
theorem aa (hlt:b<wr.heap.size) (h:RS wr b s at_ W) (hb:Below W.heap.size W w1):RS wr b s at_ w1:=by
 have hW:b<W.heap.size:=Nat.lt_of_lt_of_le hlt h.2.2.size
 exact⟨(hb.cell hW).trans h.1,(hb.cell hW).trans h.2.1,on h.2.2 hb⟩
theorem Pe (h:RS wr b s at_ W):RS wr b s at_ W.drew:=⟨h.1,h.2.1,h.2.2.drew⟩
theorem Il (h:RS wr b s at_ W):Below wr.heap.size wr W:=h.2.2
theorem Mg {deep:Nat} (h:Reader wr b s at_ deep):RS wr b s at_ wr.drew:=⟨h.c0,h.c1,(Below.refl _ _).drew⟩
end
theorem VB {w:World} {b:Nat} {s:ByteArray} {at_ deep:Nat} (h:Reader w b s at_ deep) (hat:at_<s.size) (hs:s.size<=900):
    Calls Tryz.prog 161 #[.pointer (some ⟨b,0,none⟩)] w (Reads b s deep w (if(Ew.parse (s.data.toList.drop at_)).2.2≠0 then .bad at_ (Ew.parse (s.data.toList.drop at_)).2.2 else .ok (leaf 4 (txt (Ew.parse (s.data.toList.drop at_)).1)) (at_+(Ew.parse (s.data.toList.drop at_)).2.1))):=by
 have hz:(s.extract at_ s.size).size<=4611686018427387000:=by rw[ByteArray.size_extract];omega
 have HP: ∀w,Calls Tryz.prog 170 #[.string (s.extract at_ s.size)] w (FD.ET w (Ew.parse (s.data.toList.drop at_))):=by
  intro w
  have:=FD.Ff hz w
  rw[Kit.Aa]at this
  exact this
 have hle:=MO (s:=s.data.toList.drop at_)
 rw[List.length_drop,<-Lib.size_eq]at hle
 obtain⟨⟨F,n,er⟩,hR⟩: ∃R,Ew.parse (s.data.toList.drop at_)=R:=⟨_,rfl⟩
 rw[hR]at HP hle ⊢
 simp only at hle ⊢
 obtain⟨g,hg⟩: ∃g,(if er≠0 then Dg.bad at_ er else .ok (leaf 4 (txt F)) (at_+n))=g:=⟨_,rfl⟩
 rw[hg]
 have HG:=hid hg
 have HH:=hid HP
 have hlt:=h.lt
 have H:=hid h
 have h1:(at_:Int)<=(s.size:Int):=by omega
 have HL:=hid hle
 clear hR HP h hz hle hg
 go_enter Tryz.func161,Tryz.ntmps161
 go_wp2_with (first|(refine AJ rfl rfl ?_;intro w1 b1 e1 p1 l1 z1))
 have H1:=hid (H.out.below l1)
 have P1:=hid p1
 have L1:=hid l1
 have hlt1:=H1.out.lt
 have d0:=H1.out.c0
 have d1:=H1.out.c1
 clear p1 l1
 go_region_held3 (fun w'=>w'.cell? ⟨b,0,none⟩=some (.string s)/\w'.cell? ⟨b,1,none⟩=some (.int .i64 at_)/\Below w1.heap.size w1 w')
  (first|exact aa hlt1 (by assumption) hb2|exact Mg H1.out|exact Pe (by assumption)|go_keep)
  (first|(go_at_call 170;refine(HH.out _).mono ?_;rintro e w2 ⟨rfl,hb2⟩))
 have hS:RS w1 b s at_ w2:=by assumption
 have H2:=hid (H1.out.below (Il hS))
 have P2:=hid (P1.out.below (Il hS))
 have L2:=hid (L1.out.trans ((Il hS).mono L1.out.size))
 have hne:b1≠b:=by omega
 clear hS
 by_cases he:er=0
 ·have te:(er !=0)=false:=by rw[he];rfl
  have HG2:Hid (g= .ok (leaf 4 (txt F)) (at_+n)):=by
   unfold Hid
   rw[<-HG.out,if_neg (by simpa using he)]
  have hw:wrap64 ((at_:Int)+(n:Int))=((at_+n:Nat):Int):=by have:=HL.out he;unfold wrap64;omega
  have f1:=H2.out.free 1
  have c1:=H2.out.c1
  clear he
  go_wp2_with (first|(refine AB (r:=⟨4,FD.tx F,none,0,0,0,0⟩) rfl _ _ rfl rfl rfl (Ad.beside P2.out (BH _ _ _ _) hne) ?_;intro w4 p4 l4 z4))
  refine BP rfl rfl p4 rfl ?_
  have B:=BI ((Beside.of (b:=b) L2.out).trans (BH w2 b 1 (.int .i64 ((at_+n:Nat):Int)))) l4 (by omega)
  rw[HG2.out]
  exact⟨B,_,rfl,(H2.out.NZ (at_+n)).beside l4 hne.symm,DF.leaf _ _ 4 _⟩
 have te:(er !=0)=true:=by simpa using he
 have HG2:Hid (g= .bad at_ er):=by
  unfold Hid
  rw[<-HG.out,if_pos he]
 have HE:=hid he
 clear he
 go_wp2_with (first|(refine AB (r:=Af) rfl _ _ rfl rfl rfl P2.out ?_;intro w4 p4 l4 z4))
 refine BP rfl rfl p4 rfl ?_
 rw[HG2.out]
 exact⟨BI (Beside.of (b:=b) L2.out) l4 (by omega),HE.out,rfl,_,H2.out.beside l4 hne.symm⟩
theorem getD_at {s:ByteArray} {i:Nat} (h:i<s.size):s.data.toList.getD i 0=s[i]:=Kit.CO s i h
theorem ib {s:ByteArray} {i:Nat} (h:i<s.size):(s.extract i s.size).extract 0 1=YW s[i]:=by
 apply BM
 rw[Kit.Br,Kit.Aa,Kit.Ay s i h]
 rfl
def En (S:List UInt8) (at_:Nat):Dg:=
 if at_+1=S.length then .bad at_ 3
 else if Ew.letter (S.getD (at_+1) 0)then .ok (leaf 4 (txt (Ew.Bt (S.getD (at_+1) 0)))) (at_+2)
 else .ok (leaf 2 (YW (S.getD (at_+1) 0))) (at_+2)
theorem XF {w:World} {b:Nat} {s:ByteArray} {at_ deep:Nat} (h:Reader w b s at_ deep) (hat:at_<s.size) (hs:s.size<=900):
    Calls Tryz.prog 162 #[.pointer (some ⟨b,0,none⟩)] w (Reads b s deep w (En s.data.toList at_)):=by
 have hlen:s.data.toList.length=s.size:=(Lib.size_eq s).symm
 have hlt:=h.lt
 have H:=hid h
 have h1:((at_+1:Nat):Int)<=(s.size:Int):=by omega
 have hw1:wrap64 ((at_:Int)+1)=((at_+1:Nat):Int):=by unfold wrap64;omega
 have hw2:wrap64 ((at_:Int)+2)=((at_+2:Nat):Int):=by unfold wrap64;omega
 by_cases hend:at_+1=s.size
 ·have HG:Hid (En s.data.toList at_= .bad at_ 3):=by
    unfold Hid En
    rw[if_pos (by omega)]
  have he:(s.extract (at_+1) s.size).toList.isEmpty=true:=Az (by rw[ByteArray.size_extract];omega)
  rw[HG.out]
  clear h hlen
  go_enter Tryz.func162,Tryz.ntmps162
  go_wp2_with (first|(refine AJ rfl rfl ?_;intro w1 b1 e1 p1 l1 z1))
  have H1:=hid (H.out.below l1)
  have P1:=hid p1
  have L1:=hid l1
  have c0:=H1.out.c0
  have c1:=H1.out.c1
  clear p1 l1
  go_quiet (fail)
  have P2:Hid (Ad (w1.drewN nq) b1 Af):=P1
  have H2:Hid (Reader (w1.drewN nq) b s at_ deep):=H1
  have L2:=hid (L1.out.trans ((below_draws w1 nq).mono L1.out.size))
  go_wp2_with (first|(refine AB (r:=Af) rfl _ _ rfl rfl rfl P2.out ?_;intro w4 p4 l4 z4))
  refine BP rfl rfl p4 rfl ?_
  exact⟨BI (Beside.of (b:=b) L2.out) l4 (by omega),by decide,rfl,_,H2.out.beside l4 (by omega)⟩
 have hlt2:at_+1<s.size:=by omega
 have he:(s.extract (at_+1) s.size).toList.isEmpty=false:=Ap (by rw[ByteArray.size_extract];omega)
 have hz:(s.extract (at_+1) s.size).size=s.size-(at_+1):=by rw[ByteArray.size_extract];omega
 have hz0:0<(s.extract (at_+1) s.size).size:=by omega
 have hz1:(1:Int)<=((s.extract (at_+1) s.size).size:Int):=by omega
 have hz2:(0:Int)<((s.extract (at_+1) s.size).size:Int):=by omega
 have hc:(s.extract (at_+1) s.size)[0]=s[at_+1]:=by
  have:=Kit.CO (s.extract (at_+1) s.size) 0 hz0
  rw[Kit.Aa,Kit.Ay s (at_+1) hlt2]at this
  exact this.symm
 have xe:=hid (ib hlt2)
 have HN:Hid (∀w,Calls Tryz.prog 171 #[.int .u8 (s.extract (at_+1) s.size)[0].toNat] w fun e w'=>e= .returned (.tuple #[.string (FD.tx (Ew.Bt s[at_+1])),.bool (Ew.letter s[at_+1])])/\Below w.heap.size w w'):=by
  intro w
  rw[hc]
  exact FD.Y7 _ w
 cases hlet:Ew.letter s[at_+1]with
 |true=>
  have HG:Hid (En s.data.toList at_= .ok (leaf 4 (txt (Ew.Bt s[at_+1]))) (at_+2)):=by
   unfold Hid En
   rw[if_neg (by omega),getD_at hlt2,hlet,if_pos rfl]
  rw[HG.out]
  rw[hlet]at HN
  clear h hlen hlet hc
  go_enter Tryz.func162,Tryz.ntmps162
  go_wp2_with (first|(refine AJ rfl rfl ?_;intro w1 b1 e1 p1 l1 z1))
  have H1:=hid (H.out.below l1)
  have P1:=hid p1
  have L1:=hid l1
  have c0:=H1.out.c0
  have c1:=H1.out.c1
  clear p1 l1
  go_quiet (fail)
  have P2:Hid (Ad (w1.drewN nq) b1 Af):=P1
  have H2:Hid (Reader (w1.drewN nq) b s at_ deep):=H1
  have L2:=hid (L1.out.trans ((below_draws w1 nq).mono L1.out.size))
  have d1:=H2.out.c1
  have f1:=H2.out.free 1
  generalize w1.drewN nq=w2 at*
  go_wp2_with fail
  refine(HN.out _).mono ?_
  rintro e w3 ⟨rfl,l3⟩
  have H3:=hid ((H2.out.NZ (at_+2)).below l3)
  have hne:b1≠b:=by omega
  have P3:=hid ((P2.out.beside (BH w2 b 1 (.int .i64 ((at_+2:Nat):Int))) hne).below l3)
  have B3:=hid (BF ((Beside.of (b:=b) L2.out).trans (BH w2 b 1 (.int .i64 ((at_+2:Nat):Int)))) l3)
  clear l3
  go_wp2_with (first|(refine AB (r:=⟨4,FD.tx (Ew.Bt s[at_+1]),none,0,0,0,0⟩) rfl _ _ rfl rfl rfl P3.out ?_;intro w4 p4 l4 z4))
  refine BP rfl rfl p4 rfl ?_
  exact⟨BI B3.out l4 (by omega),_,rfl,H3.out.beside l4 hne.symm,DF.leaf _ _ 4 _⟩
 |false=>
  have HG:Hid (En s.data.toList at_= .ok (leaf 2 (YW s[at_+1])) (at_+2)):=by
   unfold Hid En
   rw[if_neg (by omega),getD_at hlt2,hlet,if_neg (by simp)]
  rw[HG.out]
  rw[hlet]at HN
  clear h hlen hlet hc
  go_enter Tryz.func162,Tryz.ntmps162
  go_wp2_with (first|(refine AJ rfl rfl ?_;intro w1 b1 e1 p1 l1 z1))
  have H1:=hid (H.out.below l1)
  have P1:=hid p1
  have L1:=hid l1
  have c0:=H1.out.c0
  have c1:=H1.out.c1
  clear p1 l1
  go_quiet (fail)
  have P2:Hid (Ad (w1.drewN nq) b1 Af):=P1
  have H2:Hid (Reader (w1.drewN nq) b s at_ deep):=H1
  have L2:=hid (L1.out.trans ((below_draws w1 nq).mono L1.out.size))
  have d1:=H2.out.c1
  have f1:=H2.out.free 1
  generalize w1.drewN nq=w2 at*
  go_wp2_with fail
  refine(HN.out _).mono ?_
  rintro e w3 ⟨rfl,l3⟩
  have H3:=hid ((H2.out.NZ (at_+2)).below l3)
  have hne:b1≠b:=by omega
  have P3:=hid ((P2.out.beside (BH w2 b 1 (.int .i64 ((at_+2:Nat):Int))) hne).below l3)
  have B3:=hid (BF ((Beside.of (b:=b) L2.out).trans (BH w2 b 1 (.int .i64 ((at_+2:Nat):Int)))) l3)
  clear l3
  go_wp2_with (first|(refine AB (r:=⟨2,(s.extract (at_+1) s.size).extract 0 1,none,0,0,0,0⟩) rfl _ _ rfl rfl rfl P3.out ?_;intro w4 p4 l4 z4))
  refine BP rfl rfl p4 rfl ?_
  rw[xe.out]
  exact⟨BI B3.out l4 (by omega),_,rfl,H3.out.beside l4 hne.symm,DF.leaf _ _ 2 _⟩
end W14
namespace W14
open Cj
open BU (Beside)
open Kit (Au AX BO CL Ae BM below_draws on Ap Bl Az Bb)
def Ol (s:ByteArray) (R:Nat->Nat->Option Dg) (lo:Nat):Prop:=
 ∀at_ deep,lo<=at_->at_<=s.size->deep<=64-> ∃g,R at_ deep=some g/\GN s.data.toList at_ g/\
  ∀w b,Reader w b s at_ deep->Calls Tryz.prog 72 #[.pointer (some ⟨b,0,none⟩)] w (Reads b s deep w (fix s.data.toList deep g))
theorem AY {u v x:World} {c:Nat} (h:Below u.heap.size u v) (k:Beside c v x) (e:u.heap.size=c):Below u.heap.size u x:=h.trans (k.below h.size (by omega))
theorem ic {S:List UInt8} {deep:Nat} (h:deep≠0) (g:Dg):fix S deep g=g:=by
 cases g with
 |ok p to=>exact if_neg (fun q=>h q.1)
 |bad b e=>rfl
def Im (R:Nat->Nat->Option Dg) (S:List UInt8) (at_ deep:Nat):Dg:=
 if deep=64 then .bad at_ 21
 else match R (at_+1) (deep+1)with
  |none=> .bad 0 0
  |some (.bad b e)=> .bad b e
  |some (.ok p to)=>if to=S.length then .bad S.length 3 else .ok p (to+1)
section
variable {w:World} {b:Nat} {s:ByteArray} {at_ deep:Nat}
theorem Sr (h:Reader w b s at_ 64):
    Calls Tryz.prog 160 #[.pointer (some ⟨b,0,none⟩)] w (Reads b s 64 w (.bad at_ 21)):=by
 have hlt:=h.lt
 have H:=hid h
 clear h
 go_enter Tryz.func160,Tryz.ntmps160
 go_wp2_with (first
  |(refine AJ rfl rfl ?_;intro w1 b1 e1 p1 l1 z1;have H1:=hid (H.out.below l1);have d2:=H1.out.c2)
  |(refine AB (r:=Af) rfl (.tmp 2) (.tmp 11) rfl rfl rfl p1 ?_;intro w2 p2 l2 z2))
 refine BP rfl rfl p2 rfl ?_
 exact⟨BI (Beside.of (b:=b) l1) l2 (by omega),by decide,rfl,_,H1.out.beside l2 (by omega)⟩
theorem VH (h:Reader w b s at_ deep) (hat:at_<s.size) (hs:s.size<=900) (hd:deep<64) {q:Nat} {er:Int}
    (hC: ∀w b,Reader w b s (at_+1) (deep+1)->Calls Tryz.prog 72 #[.pointer (some ⟨b,0,none⟩)] w (Reads b s (deep+1) w (.bad q er))):
    Calls Tryz.prog 160 #[.pointer (some ⟨b,0,none⟩)] w (Reads b s deep w (.bad q er)):=by
 have hlt:=h.lt
 have H:=hid h
 have HC:=hid hC
 have t1:((deep:Int)==64)=false:=by simpa using (by omega: ¬(deep:Int)=64)
 have hw1:wrap64 ((at_:Int)+1)=((at_+1:Nat):Int):=by unfold wrap64;omega
 have hw2:wrap64 ((deep:Int)+1)=((deep+1:Nat):Int):=by unfold wrap64;omega
 clear h hC
 go_enter Tryz.func160,Tryz.ntmps160
 go_wp2_with (first
  |(refine AJ rfl rfl ?_;intro w1 b1 e1 p1 l1 z1;have H1:=hid (H.out.below l1);have d1:=H1.out.c1;have d2:=H1.out.c2;have f1:=H1.out.free 1;have f2:=H1.out.free 2))
 have hne:b1≠b:=by omega
 have H3:=hid ((H1.out.NZ (at_+1)).Yw (deep+1))
 have B3:Hid (Beside b w1 ((w1.setCell ⟨b,1,none⟩ (.int .i64 ((at_+1:Nat):Int))).setCell ⟨b,2,none⟩ (.int .i64 ((deep+1:Nat):Int)))):=(BH _ _ _ _).trans (BH _ _ _ _)
 refine(HC.out _ _ H3.out).mono ?_
 rintro e w4 ⟨b4,he,rfl,d,hr⟩
 have B4:=hid (B3.out.trans b4)
 have P4:=hid (Ad.beside p1 B4.out hne)
 have H4:=hid hr
 have te:(er !=0)=true:=by simpa using he
 have HE:=hid he
 have hz:=B4.out.size
 clear b4 hr he
 go_wp2_with (first
  |(refine AJ rfl rfl ?_;intro w5 b2 e5 p5 l5 z5)
  |(refine AB (r:=Af) rfl (.tmp 4) (.tmp 29) rfl rfl rfl p5 ?_;intro w6 p6 l6 z6;have L6:=hid (AY l5 l6 e5);have P6:=hid (P4.out.below L6.out))
  |(refine AB (r:=Af) rfl (.tmp 2) (.tmp 33) rfl rfl rfl P6.out ?_;intro w7 p7 l7 z7))
 refine BP rfl rfl p7 rfl ?_
 exact⟨BI ((Beside.of (b:=b) l1).trans (BF B4.out L6.out)) l7 (by omega),HE.out,rfl,_,(H4.out.below L6.out).beside l7 hne.symm⟩
theorem Su (h:Reader w b s at_ deep) (hat:at_<s.size) (hs:s.size<=900) (hd:deep<64) {p:Piece}
    (hC: ∀w b,Reader w b s (at_+1) (deep+1)->Calls Tryz.prog 72 #[.pointer (some ⟨b,0,none⟩)] w (Reads b s (deep+1) w (.ok p s.size))):
    Calls Tryz.prog 160 #[.pointer (some ⟨b,0,none⟩)] w (Reads b s deep w (.bad s.size 3)):=by
 have hlt:=h.lt
 have H:=hid h
 have HC:=hid hC
 have t1:((deep:Int)==64)=false:=by simpa using (by omega: ¬(deep:Int)=64)
 have hw1:wrap64 ((at_:Int)+1)=((at_+1:Nat):Int):=by unfold wrap64;omega
 have hw2:wrap64 ((deep:Int)+1)=((deep+1:Nat):Int):=by unfold wrap64;omega
 clear h hC
 go_enter Tryz.func160,Tryz.ntmps160
 go_wp2_with (first
  |(refine AJ rfl rfl ?_;intro w1 b1 e1 p1 l1 z1;have H1:=hid (H.out.below l1);have d1:=H1.out.c1;have d2:=H1.out.c2;have f1:=H1.out.free 1;have f2:=H1.out.free 2))
 have hne:b1≠b:=by omega
 have H3:=hid ((H1.out.NZ (at_+1)).Yw (deep+1))
 have B3:Hid (Beside b w1 ((w1.setCell ⟨b,1,none⟩ (.int .i64 ((at_+1:Nat):Int))).setCell ⟨b,2,none⟩ (.int .i64 ((deep+1:Nat):Int)))):=(BH _ _ _ _).trans (BH _ _ _ _)
 refine(HC.out _ _ H3.out).mono ?_
 rintro e w4 ⟨b4,r,rfl,hr,hp⟩
 have B4:=hid (B3.out.trans b4)
 have P4:=hid (Ad.beside p1 B4.out hne)
 have H4:=hid hr
 have hz:=B4.out.size
 clear b4 hr hp
 go_wp2_with (first
  |(refine AJ rfl rfl ?_;intro w5 b2 e5 p5 l5 z5)
  |(refine AB (r:=r) rfl (.tmp 4) (.tmp 29) rfl rfl rfl p5 ?_;intro w6 p6 l6 z6;have L6:=hid (AY l5 l6 e5);have P6:=hid (P4.out.below L6.out);have H6:=hid (H4.out.below L6.out);have k0:=H6.out.c0;have k1:=H6.out.c1))
 go_quiet (fail)
 have P7:Hid (Ad (w6.drewN nq) b1 Af):=P6
 have H7:Hid (Reader (w6.drewN nq) b s s.size (deep+1)):=H6
 have B7:Hid (Beside b w (w6.drewN nq)):=BF ((Beside.of (b:=b) l1).trans (BF B4.out L6.out)) (below_draws w6 nq)
 go_wp2_with (first
  |(refine AB (r:=Af) rfl (.tmp 2) (.tmp 45) rfl rfl rfl P7.out ?_;intro w8 p8 l8 z8))
 refine BP rfl rfl p8 rfl ?_
 exact⟨BI B7.out l8 (by omega),by decide,rfl,_,H7.out.beside l8 hne.symm⟩
theorem XG (h:Reader w b s at_ deep) (hat:at_<s.size) (hs:s.size<=900) (hd:deep<64) {p:Piece} {to:Nat} (hto:to<s.size)
    (hC: ∀w b,Reader w b s (at_+1) (deep+1)->Calls Tryz.prog 72 #[.pointer (some ⟨b,0,none⟩)] w (Reads b s (deep+1) w (.ok p to))):
    Calls Tryz.prog 160 #[.pointer (some ⟨b,0,none⟩)] w (Reads b s deep w (.ok p (to+1))):=by
 have hlt:=h.lt
 have H:=hid h
 have HC:=hid hC
 have t1:((deep:Int)==64)=false:=by simpa using (by omega: ¬(deep:Int)=64)
 have t2:((to:Int)==(s.size:Int))=false:=CY (by omega)
 have hw1:wrap64 ((at_:Int)+1)=((at_+1:Nat):Int):=by unfold wrap64;omega
 have hw2:wrap64 ((deep:Int)+1)=((deep+1:Nat):Int):=by unfold wrap64;omega
 have hw3:wrap64 ((to:Int)+1)=((to+1:Nat):Int):=by unfold wrap64;omega
 have hw4:wrap64 (((deep+1:Nat):Int)-1)=(deep:Int):=by unfold wrap64;omega
 clear h hC
 go_enter Tryz.func160,Tryz.ntmps160
 go_wp2_with (first
  |(refine AJ rfl rfl ?_;intro w1 b1 e1 p1 l1 z1;have H1:=hid (H.out.below l1);have d1:=H1.out.c1;have d2:=H1.out.c2;have f1:=H1.out.free 1;have f2:=H1.out.free 2))
 have hne:b1≠b:=by omega
 have H3:=hid ((H1.out.NZ (at_+1)).Yw (deep+1))
 have B3:Hid (Beside b w1 ((w1.setCell ⟨b,1,none⟩ (.int .i64 ((at_+1:Nat):Int))).setCell ⟨b,2,none⟩ (.int .i64 ((deep+1:Nat):Int)))):=(BH _ _ _ _).trans (BH _ _ _ _)
 refine(HC.out _ _ H3.out).mono ?_
 rintro e w4 ⟨b4,r,rfl,hr,hp⟩
 have B4:=hid (B3.out.trans b4)
 have P4:=hid (Ad.beside p1 B4.out hne)
 have H4:=hid hr
 rw[World.size_setCell,World.size_setCell]at hp
 have A4:=hid hp
 have hz:=B4.out.size
 clear b4 hr hp
 go_wp2_with (first
  |(refine AJ rfl rfl ?_;intro w5 b2 e5 p5 l5 z5)
  |(refine AB (r:=r) rfl (.tmp 4) (.tmp 29) rfl rfl rfl p5 ?_;intro w6 p6 l6 z6;have L6:=hid (AY l5 l6 e5);have P6:=hid (P4.out.below L6.out);have H6:=hid (H4.out.below L6.out);have A6:=hid (A4.out.CP L6.out);have k0:=H6.out.c0;have k1:=H6.out.c1))
 go_quiet (fail)
 have P7:Hid (Ad (w6.drewN nq) b1 Af):=P6
 have Q7:Hid (Ad (w6.drewN nq) b2 r):=p6
 have H7:Hid (Reader (w6.drewN nq) b s to (deep+1)):=H6
 have A7:Hid (DF (In w1.heap.size (w6.drewN nq).heap.size) (w6.drewN nq) r p):=A6.out.keep (fun _ h=>h) (fun _ _=>rfl)
 have B7:Hid (Beside b w (w6.drewN nq)):=BF ((Beside.of (b:=b) l1).trans (BF B4.out L6.out)) (below_draws w6 nq)
 have qG:w4.heap.size<=(w6.drewN nq).heap.size:=L6.out.size
 clear P6 H6 A6 p6 k0 k1
 generalize w6.drewN nq=w7 at*
 have k1:=H7.out.c1
 have k2:=H7.out.c2
 have g1:=H7.out.free 1
 have g2:=H7.out.free 2
 have B8:Hid (Beside b w7 ((w7.setCell ⟨b,1,none⟩ (.int .i64 ((to+1:Nat):Int))).setCell ⟨b,2,none⟩ (.int .i64 (deep:Int)))):=(BH _ _ _ _).trans (BH _ _ _ _)
 have H8:=hid ((H7.out.NZ (to+1)).Yw deep)
 go_wp2_with (first
  |(refine AU rfl (.tmp 4) rfl rfl (Q7.out.beside B8.out (by omega)) ?_)
  |(refine AB (r:=r) rfl (.tmp 2) (.tmp 60) rfl rfl rfl (P7.out.beside B8.out hne) ?_;intro w8 p8 l8 z8))
 refine BP rfl rfl p8 rfl ?_
 exact⟨BI (B7.out.trans B8.out) l8 (by omega),_,rfl,H8.out.beside l8 hne.symm,((A7.out.Bg B8.out (by omega)).Bg l8 (by omega)).Cs l1.size⟩
theorem VI {R:Nat->Nat->Option Dg} (hR:Ol s R (at_+1)) (hat:at_<s.size) (hs:s.size<=900) (hd:deep<=64) (h:Reader w b s at_ deep):
    Calls Tryz.prog 160 #[.pointer (some ⟨b,0,none⟩)] w (Reads b s deep w (Im R s.data.toList at_ deep)):=by
 have hlen:s.data.toList.length=s.size:=(Lib.size_eq s).symm
 unfold Im
 by_cases h64:deep=64
 ·subst h64
  rw[if_pos rfl];exact Sr h
 rw[if_neg h64]
 obtain⟨g,e,hf,hc⟩:=hR (at_+1) (deep+1) (Nat.le_refl _) hat (by omega)
 rw[ic (by omega)]at hc
 rw[e]
 match g,hf,hc with
 | .bad q er,hf,hc=>exact VH h hat hs (by omega) hc
 | .ok p to,hf,hc=>
  simp only
  have h2:=hf.2.1
  by_cases ht:to=s.data.toList.length
  ·rw[if_pos ht,hlen]
   rw[hlen]at ht
   subst ht
   exact Su h hat hs (by omega) hc
  rw[if_neg ht]
  exact XG h hat hs (by omega) (by omega) hc
end
end W14
namespace Bv
open Go Cj
theorem UE {ks:List Piece}: ∀(l:List Piece) (p:Piece) (a:Nat),(∀q,q∈l->q∈ks)->(∀q,q∈ks-> ∀a,(steps q a).length=size q)->Dw (l++ [p]) a=Dw l a++steps p (a+sizes l)
 | [],p,a,_,_=>by simp[Dw,sizes]
 |q::l,p,a,hm,hs=>by
  rw[List.cons_append,Dw,Dw,UE l p (a+size q) (fun r hr=>hm r (by simp[hr])) hs,List.append_assoc]
  rw[show sizes (q::l)=size q+sizes l by simp only[sizes],Nat.add_assoc]
theorem Cz (ks:List Piece) (i:Nat):sizes (ks.take i)<=sizes ks:=by
 have:=DN (ks.take i) (ks.drop i)
 rw[List.take_append_drop]at this
 omega
theorem Qq {ks:List Piece} {i:Nat} (hi:i<ks.length):sizes (ks.take (i+1))=sizes (ks.take i)+size ks[i]:=by
 rw[List.take_succ_eq_append_getElem hi,DN]
 simp only[sizes,Nat.add_zero]
theorem UF {ks:List Piece} (hs: ∀q,q∈ks-> ∀a,(steps q a).length=size q) {i:Nat} (hi:i<ks.length) (a:Nat):Dw (ks.take (i+1)) a=Dw (ks.take i) a++steps ks[i] (a+sizes (ks.take i)):=by
 rw[List.take_succ_eq_append_getElem hi]
 exact UE _ _ _ (fun q hq=>List.mem_of_mem_take hq) hs
theorem Km {ks:List Piece} (hs: ∀q,q∈ks-> ∀a,(steps q a).length=size q) (i a:Nat):(Dw (ks.take i) a).length=sizes (ks.take i):=QT (fun q hq=>hs q (List.mem_of_mem_take hq)) a
end Bv
namespace EH
open Strs Al Bv
open Cj (Piece size sizes)
open W14 (Raw Ea Ak Co DF FT Ad AZ AO Bi BL AV AU CB Aq AJ AB AY EF)
open BU (Beside)
open Kit (below_draws on)
def EU (b:Nat) (w:World) (A:Option Addr) (c:Nat) (Ag:List Raw) (ks:List Piece):Prop:=
 (∃B,Ea B w (.slice A ks.length c) Ag)/\(∀ad,A=some ad->0<Ag.length->ad.block<b)/\FT (fun k=>k<b) w Ag ks
section
variable {w w':World} {b:Nat} {A:Option Addr} {c:Nat} {Ag:List Raw} {ks:List Piece}
theorem EW {r:Raw} {k:Int} {t:ByteArray} {l tp:Int} (h:DF (fun k=>k<b) w r (.mk k t ks l tp)): ∃A c Ag,r=⟨k,t,A,ks.length,c,l,tp⟩/\EU b w A c Ag ks:=by
 cases h with
 |mk _ _ A n c _ _ Ag _ B h hX hl hk=>
  have hn:n=ks.length:=by
   obtain⟨A',c',e,-⟩:=h
   injection e with e1 e2 e3
   omega
  subst hn
  exact⟨A,c,Ag,rfl,⟨B,h⟩,hX,hl,hk⟩
theorem EU.keep (h:EU b w A c Ag ks) (hk: ∀k,k<b->w'.heap[k]? =w.heap[k]?):EU b w' A c Ag ks:=by
 obtain⟨⟨B,h1⟩,h2,h3⟩:=h
 exact⟨⟨B,EF h1 fun ad e hn p hp=>AO (hk _ (by rw[hp];exact h2 ad e hn))⟩,h2,h3.keep (fun _ q=>q) fun _ q=>AO (hk _ q)⟩
theorem EU.kids (h:EU b w A c Ag ks) (hb:b<=w.heap.size):W14.Kids w A c Ag ks:=
 ⟨h.1,fun ad e hn=>Nat.lt_of_lt_of_le (h.2.1 ad e hn) hb,h.2.2.keep (fun _ q=>Nat.lt_of_lt_of_le q hb) fun _ _=>rfl⟩
theorem EU.kid (h:EU b w A c Ag ks) {i:Nat} (hi:i<ks.length): ∃hr:i<Ag.length,DF (fun k=>k<b) w Ag[i] ks[i]:=by
 obtain⟨-,-,h3,h4⟩:=h
 exact⟨by omega,h4 i (by omega) hi⟩
theorem EU.grow {v v':Value} {L:List AL} (h:EU b w A c Ag ks) (hl:Lay w b v L) (hg:Grow b v v' w w'):EU b w' A c Ag ks:=h.keep fun _ q=>hg.keeps hl q
theorem EU.below (h:EU b w A c Ag ks) (hb:b<w.heap.size) (hg:Below w.heap.size w w'):EU b w' A c Ag ks:=h.keep fun _ q=>hg.block _ (Nat.lt_trans q hb)
end
def Mh (p:Piece):Prop:= ∀(w:World) (b:Nat) (v:Value) (L:List AL) (r:Raw),Lay w b v L->DF (fun k=>k<b) w r p->L.length+size p<=4000->
 Calls Tryz.prog 77 #[.pointer (some ⟨b,0,none⟩),.agg (Ak r)] w (Laid b v w (L++steps p L.length))
theorem ng {ks:List Piece} (IH: ∀i (hi:i<ks.length),Mh ks[i]) (hs: ∀q,q∈ks-> ∀a,(steps q a).length=size q) {w:World} {b:Nat} {v:Value} {L:List AL} {k:Int} {t:ByteArray} {A:Option Addr} {c:Nat} {m tp:Int} {Ag:List Raw} (h:Lay w b v L) (k1:EU b w A c Ag ks) (hl:L.length+sizes ks<=4000):
    Calls Tryz.prog 105 #[.pointer (some ⟨b,0,none⟩),.agg (Ak ⟨k,t,A,ks.length,c,m,tp⟩)] w (Laid b v w (L++Dw ks L.length)):=by
 have H:=hid h
 have HI:=hid IH
 have HS:=hid hs
 have K1:=hid k1
 have HR:=hid (k1.kids (Nat.le_of_lt h.box.lt)).room
 have HL:=hid hl
 have hr1:=HR.out.1
 have hr2:=HR.out.2
 clear h IH hs k1 hl
 go_enter Tryz.func105,Tryz.ntmps105
 go_wp2_with (first
  |(refine AV (r:=⟨k,t,A,ks.length,c,m,tp⟩) rfl (.tmp 1) rfl rfl ?_;intro w1 b1 e1 p1 l1 z1;have a2:=p1.c2;have L1:=hid l1;clear e1 p1 l1 z1;simp only at a2))
 have H1:=hid (H.out.below L1.out)
 have K2:=hid (K1.out.below H.out.box.lt L1.out)
 clear a2 hr1 hr2
 go_loopg [9] ks.length (fun gk s9 wr=> ∃(i:Nat) (v1:Value),s9= .int .i64 i/\Hid (i+gk=ks.length)/\Hid (Lay wr b v1 (L++Dw (ks.take i) L.length))/\Hid (EU b wr A c Ag ks)/\Hid (Grow b v v1 w wr))
 case atStart=>exact⟨0,v,rfl,by unfold Hid;omega,by unfold Hid;simp only[List.take_zero,Dw,List.append_nil];exact H1.out,K2,Grow.of L1.out⟩
 case round=>
  obtain⟨i,v1,rfl,hig,IW,KK,GG⟩:=hrel
  have hn1:=HR.out.1
  have hn2:=HR.out.2
  by_cases hi:i<ks.length
  ·have ti:(i:Int)<(ks.length:Int):=by omega
   have hlt:=IW.out.box.lt
   obtain⟨g1,o1,rfl,C1⟩:=(KK.out.kids (Nat.le_of_lt hlt)).at_ (Nat.lt_of_le_of_lt (Nat.zero_le _) hi)
   obtain⟨hr1,q1⟩:=KK.out.kid hi
   have E1:=hid (C1 i hr1)
   have Q1:=hid q1
   have HI2:=hid hi
   obtain⟨rk,Hy⟩: ∃rk,Ag[i]'hr1=rk:=⟨_,rfl⟩
   rw[Hy]at E1 Q1
   have HC:Hid (∀(w:World) (v:Value),Lay w b v (L++Dw (ks.take i) L.length)->DF (fun k=>k<b) w rk ks[i]->Calls Tryz.prog 77 #[.pointer (some ⟨b,0,none⟩),.agg (Ak rk)] w (Laid b v w (L++Dw (ks.take (i+1)) L.length))):=by
    intro w v h1 h2
    have hz:(L++Dw (ks.take i) L.length).length=L.length+sizes (ks.take i):=by rw[List.length_append,Km HS.out]
    have:=HI.out i hi w b v _ rk h1 h2 (by have h3:=Qq hi;have h4:=Cz ks (i+1);have:=HL.out;omega)
    rw[hz]at this
    rw[UF HS.out hi,<-List.append_assoc]
    exact this
   have DT:Hid (wrap64 ((i:Int)+1)=((i+1:Nat):Int)):=by unfold Hid wrap64;omega
   have HT:=hid hlt
   clear C1 q1 Hy hlt
   go_wp2_with (first
    |(refine Aq rfl (.tmp 11) rfl rfl (r:=rk) E1.out ?_)
    |(refine AJ rfl rfl ?_;intro w3 b3 e3 p3 l3 z3)
    |(refine AB (r:=rk) rfl (.tmp 5) (.tmp 12) rfl rfl rfl p3 ?_;intro w4 p4 l4 z4;have L4:=hid (AY l3 l4 e3);have P4:=hid p4;clear e3 p3 l3 z3 p4 l4 z4)
    |(refine AU (r:=rk) rfl (.tmp 5) rfl rfl P4.out ?_))
   have H4:=hid (IW.out.below L4.out)
   have K4:=hid (KK.out.below HT.out L4.out)
   refine(HC.out _ _ H4.out (CV L4.out HT.out Q1.out)).mono ?_
   rintro e w5 ⟨rfl,v2,h5,g5⟩
   have H5:=hid h5
   have K5:=hid (K4.out.grow H4.out g5)
   have G5:=hid (GG.out.trans ((Grow.of L4.out).trans g5))
   clear h5 g5
   cases gk with
   |zero=>exact absurd hig.out (by have:=HI2.out;omega)
   |succ g=>
    go_wp2_with fail
    go_roundg g
    case measure=>omega
    case rel=>exact⟨i+1,v2,by first|rfl|exact congrArg (Value.int .i64) DT.out,by have:=hig.out;unfold Hid;omega,H5,K5,G5⟩
  have ti: ¬(i:Int)<(ks.length:Int):=by omega
  have hie:i=ks.length:=by have:=hig.out;omega
  have HL2:Hid (Lay wr b v1 (L++Dw ks L.length)):=by have:=IW.out;rw[hie,List.take_length]at this;exact this
  clear hie
  go_wp2_with fail
  go_end0
  exact⟨rfl,v1,HL2.out,GG.out⟩
end EH
namespace Bv
open Go Cj
def pre:List Piece->Nat->Nat->List AL
 | [],_,_=> []
 |p::l,a,j=>split (a+1) (a+size p+2)::(steps p (a+1)++jump j::pre l (a+size p+2) j)
def EX:List Piece->Nat->List Nat
 | [],_=> []
 |p::l,a=>(a+size p+1)::EX l (a+size p+2)
def Cu (l:List Piece):Nat:=sizes l+2*l.length
theorem Ip (p:Piece) (l:List Piece):Cu (p::l)=size p+2+Cu l:=by
 unfold Cu
 rw[show sizes (p::l)=size p+sizes l by simp only[sizes],List.length_cons];omega
theorem Hz {ks:List Piece} (hs: ∀q,q∈ks-> ∀a,(steps q a).length=size q) (j:Nat): ∀(l:List Piece) (a:Nat),(∀q,q∈l->q∈ks)->(pre l a j).length=Cu l
 | [],a,_=>by simp[pre,Cu,sizes]
 |p::l,a,hm=>by
  rw[pre,List.length_cons,List.length_append,List.length_cons,hs p (hm p (by simp)),Hz hs j l _ (fun q hq=>hm q (by simp[hq])),Ip];omega
theorem JJ (j:Nat): ∀(l m:List Piece) (a:Nat),pre (l++m) a j=pre l a j++pre m (a+Cu l) j
 | [],m,a=>by simp[pre,Cu,sizes]
 |p::l,m,a=>by
  rw[List.cons_append,pre,pre,JJ j l m,Ip,show a+size p+2+Cu l=a+(size p+2+Cu l) by omega]
  simp only[List.cons_append,List.append_assoc]
theorem KP: ∀(l:List Piece) (a:Nat),(EX l a).length=l.length
 | [],_=>rfl
 |p::l,a=>by rw[EX,List.length_cons,List.length_cons,KP l]
theorem JK: ∀(l m:List Piece) (a:Nat),EX (l++m) a=EX l a++EX m (a+Cu l)
 | [],m,a=>by simp[EX,Cu,sizes]
 |p::l,m,a=>by
  rw[List.cons_append,EX,EX,JK l m,Ip,show a+size p+2+Cu l=a+(size p+2+Cu l) by omega];rfl
theorem Qr (q:Piece): ∀(l:List Piece) (a e:Nat),alts (l++ [q]) a e=pre l a e++steps q (a+Cu l)
 | [],a,e=>by rw[List.nil_append,LD];simp[pre,Cu,sizes]
 | [p],a,e=>by
  rw[List.cons_append,List.nil_append,LF,LD,Ip]
  simp only[pre,List.cons_append,List.append_assoc,List.nil_append]
  rw[show Cu []=0 from rfl,show a+size p+2=a+(size p+2+0) by omega]
 |p::r::l,a,e=>by
  have:=Qr q (r::l) (a+size p+2) e
  rw[List.cons_append]at this
  rw[List.cons_append,List.cons_append,LF,this,Ip p,show a+size p+2+Cu (r::l)=a+(size p+2+Cu (r::l)) by omega]
  show _=(split (a+1) (a+size p+2)::(steps p (a+1)++jump e::pre (r::l) (a+size p+2) e))++_
  simp only[List.cons_append,List.append_assoc]
theorem take_one {ks:List Piece} {i n:Nat} (hi:i<n) (hn:n<=ks.length): ∃q,q∈ks/\(∃h:i<ks.length,ks[i]=q)/\(ks.take n).take (i+1)=(ks.take n).take i++ [q]/\(ks.take n).drop i=q::(ks.take n).drop (i+1):=by
 have h1:i<(ks.take n).length:=by rw[List.length_take];omega
 refine⟨(ks.take n)[i],List.mem_of_mem_take (List.getElem_mem h1),⟨by omega,(List.getElem_take).symm⟩,List.take_succ_eq_append_getElem h1,List.drop_eq_getElem_cons h1⟩
end Bv
namespace EH
open Strs Al Bv
open Cj (Piece size sizes)
open W14 (AO BL)
theorem CE {base:Nat} {e:TypeId} {size n:Nat} {v:Value} {xs:List Value} {w w':World} (h:w.ownsRow base e size v n xs) (hk: ∀k,v.ownBlock=some k->w'.heap[k]? =w.heap[k]?):w'.ownsRow base e size v n xs:=by
 refine⟨h.1,?_⟩
 rcases h.2 with h0|⟨g,cap,cur,e1,hb,hh,rest⟩
 ·exact Or.inl h0
 subst e1
 exact Or.inr ⟨g,cap,cur,rfl,hb,(hk g rfl).trans hh,rest⟩
theorem ED {base:Nat} {e:TypeId} {size n:Nat} {v:Value} {xs:List Value} {w:World} (h:w.ownsRow base e size v n xs) {k:Nat} (hk:v.ownBlock=some k): ∃cur,w.heap[k]? =some (.cells cur e (0,0)):=by
 rcases h.2 with⟨rfl,_⟩|⟨g,cap,cur,rfl,hb,hh,rest⟩
 ·cases hk
 cases hk
 exact⟨cur,hh⟩
theorem ni {base base':Nat} {e e':TypeId} {size size' n n':Nat} {v v':Value} {xs xs':List Value} {w:World} (h:w.ownsRow base e size v n xs) (h':w.ownsRow base' e' size' v' n' xs') (he:e≠e') {k:Nat} (hk:v.ownBlock=some k):v'.ownBlock≠some k:=by
 intro q
 obtain⟨c,h1⟩:=ED h hk
 obtain⟨c',h2⟩:=ED h' q
 rw[h1]at h2
 injection h2 with h2
 injection h2 with _ h2
 exact he h2
def D_ (base:Nat) (w:World) (v:Value) (M:List Nat):Prop:=w.ownsRow base 3 1 v M.length (M.flatMap Ig)
section
variable {w w':World} {b base:Nat} {v v' vj zP:Value} {L:List AL} {M:List Nat}
theorem D_.nil (base:Nat) (w:World):D_ base w (.slice none 0 0) []:=World.ownsRow_nil _ _ _ _
theorem D_.below (h:D_ base w vj M) (hb:Below w.heap.size w w'):D_ base w' vj M:=CE h fun k hk=>hb.block k (h.lt k hk).2
theorem D_.apart (h:D_ base w vj M) (hl:Lay w b v L) {k:Nat} (hk:vj.ownBlock=some k):v.ownBlock≠some k:=ni h hl.own (by decide) hk
theorem D_.grow (h:D_ base w vj M) (hl:Lay w b v L) (hb:b<base) (hg:Grow b v v' w w'):D_ base w' vj M:=
 CE h fun k hk=>hg.block k (h.lt k hk).2 (by have:=(h.lt k hk).1;omega) (h.apart hl hk)
theorem Lay.XH (hl:Lay w b v L) (h:D_ base w vj M) (hb:b<base) (hp:Put vj zP w w'):Lay w' b v L:=by
 obtain⟨g1,g2,g3,g4,g5⟩:=hp.grown
 refine⟨(g5 b hl.box.lt (fun q=>by have:=(h.lt b q.symm).1;omega)).trans hl.box,CE hl.own fun k hk=>g5 k (hl.EI k hk).2 (fun q=>h.apart hl q.symm hk)⟩
theorem D_.recs (h:D_ base w vj M):Al Ig 1 w.heap.size w vj M:=Al.Bw Ct rfl h
theorem EU.put {A:Option Addr} {c:Nat} {Ag:List W14.Raw} {ks:List Piece} (hk:EU b w A c Ag ks) (h:D_ base w vj M) (hb:b<base) (hw:b<w.heap.size) (hp:Put vj zP w w'):EU b w' A c Ag ks:=by
 obtain⟨g1,g2,g3,g4,g5⟩:=hp.grown
 exact hk.keep fun k q=>g5 k (Nat.lt_trans q hw) (fun q2=>by have:=(h.lt k q2.symm).1;omega)
end
/-! a field of a step -/
theorem ig (x:AL) (j:Nat) (u:Value) (y:AL) (hj:j<4) (hy:(CZ x).set j u=CZ y) (X Z:List AL):((X++x::Z).flatMap CZ).set (X.length*4+j) u=(X++y::Z).flatMap CZ:=by
 rw[List.flatMap_append,List.flatMap_append,List.flatMap_cons,List.flatMap_cons]
 have hl:=MV BJ X
 rw[List.set_append_right _ _ (by omega),hl,show X.length*4+j-X.length*4=j by omega,List.set_append_left _ _ (by rw[BJ];exact hj),hy]
section
variable {w:World} {b g c n:Nat} {X Z:List AL} {x:AL}
theorem Lay.ug {j:Nat} {u:Value} {y:AL} (hj:j<4) (hy:(CZ x).set j u=CZ y) (h:Lay w b (.slice (some ⟨g,0,none⟩) n c) (X++x::Z)):
    Lay (w.setCell ⟨g,X.length*4+j,none⟩ u) b (.slice (some ⟨g,0,none⟩) n c) (X++y::Z)/\Grow b (.slice (some ⟨g,0,none⟩) n c) (.slice (some ⟨g,0,none⟩) n c) w (w.setCell ⟨g,X.length*4+j,none⟩ u):=by
 have hgb:=(h.EI g rfl).1
 obtain⟨A,c',e,-,-⟩:=h.form
 injection e with e1 e2 e3
 subst e2
 have hs:=h.own.stored (X.length*4+j) u
 rw[ig x j u y hj hy]at hs
 refine⟨⟨(heap_setCell_other w _ b _ (show b≠g by omega)).trans h.box,?_⟩,⟨rfl,rfl,rfl,by rw[World.size_setCell];exact Nat.le_refl _,fun k _ _ e2=>heap_setCell_other w _ k _ (show k≠g from fun q=>e2 (by rw[q];rfl)),fun k hk=>Or.inl hk⟩⟩
 have hl:(X++y::Z).length=(X++x::Z).length:=by simp
 rw[hl]
 exact hs.1
theorem Lay.set2 (h:Lay w b (.slice (some ⟨g,0,none⟩) n c) (X++x::Z)) (u:Int):
    Lay (w.setCell ⟨g,X.length*4+2,none⟩ (.int .i64 u)) b (.slice (some ⟨g,0,none⟩) n c) (X++ {x with x:=u}::Z)/\Grow b (.slice (some ⟨g,0,none⟩) n c) (.slice (some ⟨g,0,none⟩) n c) w (w.setCell ⟨g,X.length*4+2,none⟩ (.int .i64 u)):=h.ug (x:=x) (y:= {x with x:=u}) (by decide) rfl
theorem Lay.rJ (h:Lay w b (.slice (some ⟨g,0,none⟩) n c) (X++x::Z)) (u:Int):
    Lay (w.setCell ⟨g,X.length*4+3,none⟩ (.int .i64 u)) b (.slice (some ⟨g,0,none⟩) n c) (X++ {x with y:=u}::Z)/\Grow b (.slice (some ⟨g,0,none⟩) n c) (.slice (some ⟨g,0,none⟩) n c) w (w.setCell ⟨g,X.length*4+3,none⟩ (.int .i64 u)):=h.ug (x:=x) (y:= {x with y:=u}) (by decide) rfl
theorem Lay.field {m:Nat} (h:Lay w b (.slice (some ⟨g,0,none⟩) n c) (X++x::Z)) (hm:X.length=m):w.cell? ⟨g,m*4+2,none⟩=some (.int .i64 x.x)/\w.cell? ⟨g,m*4+3,none⟩=some (.int .i64 x.y)/\ ∀j,w.frozen? ⟨g,j,none⟩=false:=by
 subst hm
 obtain⟨A,c',e,-,-⟩:=h.form
 injection e with e1 e2 e3
 subst e2
 have hl:(X++x::Z).length=X.length+Z.length+1:=by simp;omega
 have hf: ∀j,j<4->((X++x::Z).flatMap CZ)[X.length*4+j]? =(CZ x)[j]? :=by
  intro j hj
  have:=GZ BJ (X++x::Z) X.length (by omega) j hj
  rw[this]
  simp
 refine⟨?_,?_,fun j=>h.own.frozenAt j⟩
 ·rw[h.own.cellAt _ (by omega),hf 2 (by decide)];rfl
 rw[h.own.cellAt _ (by omega),hf 3 (by decide)];rfl
end
end EH
namespace Bv
open Go Ew
def Je (k:Int) (t:ByteArray):Bool:=if k=1 then decide (t.size=1)else if k=3 then good t.data.toList else decide (t.size=0)
def place (a:Int) (n:Nat):Bool:=decide (0<=a)&&decide (a<n)
def goes (k a b:Int) (n:Nat):Bool:=
 if k=6 then place a n&&place b n else if k=7 then decide (a=0)&&decide (b=0)else if 1<=k/\k<=8 then place a n&&decide (b=0)else false
def ae (n:Nat) (x:AL):Bool:=Je x.kind x.text&&goes x.kind x.x x.y n
def Ca (l:List AL):Bool:=l.all (ae l.length)&&decide (0<l.length)
def GV (c:UInt8):Bool:=decide (c=48)||decide (c=49)
theorem dF (c:UInt8):([48,49]:List UInt8).contains c=GV c:=by
 unfold GV
 by_cases h1:c=48
 ·subst h1;rfl
 by_cases h2:c=49
 ·subst h2;rfl
 simp[h1,h2]
theorem af: ∀(l:List UInt8),l.all GV=true->l.dropWhile GV= []
 | [],_=>rfl
 |c::l,h=>by
  rw[List.all_cons,Bool.and_eq_true]at h
  rw[List.dropWhile_cons_of_pos h.1]
  exact af l h.2
theorem nu {t:List UInt8}:(Lib.trimS t [48,49]== [])=t.all GV:=by
 have e:(fun c=>([48,49]:List UInt8).contains c)=GV:=funext dF
 unfold Lib.trimS Lib.trimLeftS Lib.trimRightS
 rw[e]
 cases h:t.all GV with
 |true=>
  have:t.reverse.dropWhile GV= []:=by
   refine af _ (List.all_eq_true.2 fun x hx=> ?_)
   exact List.all_eq_true.1 h x (List.mem_reverse.1 hx)
  rw[this];rfl
 |false=>
  obtain⟨x,hx,hn⟩: ∃x,x∈t/\GV x=false:=by
   have:=List.all_eq_false.1 h
   obtain⟨x,hx,hn⟩:=this
   exact⟨x,hx,by simpa using hn⟩
  have h1: ∀l:List UInt8,x∈l->x∈l.dropWhile GV:=by
   intro l
   induction l with
   |nil=>intro q;simp at q
   |cons d l ih=>
    intro q
    by_cases hd:GV d=true
    ·rw[List.dropWhile_cons_of_pos hd]
     rcases List.mem_cons.1 q with q|q
     ·subst q;rw[hn]at hd;cases hd
     exact ih q
    rw[List.dropWhile_cons_of_neg hd];exact q
  have h2:=h1 _ (List.mem_reverse.2 (h1 _ (List.mem_reverse.2 hx)))
  cases hq:(List.dropWhile GV (List.dropWhile GV t.reverse).reverse)with
  |nil=>rw[hq]at h2;simp at h2
  |cons a b=>rfl
theorem ny (t:ByteArray) (h:t.size=256):good t.data.toList=t.data.toList.all GV:=by
 unfold good
 rw[<-Lib.size_eq,decide_eq_true h,Bool.true_and];rfl
theorem ik (t:ByteArray) (h: ¬t.size=256):good t.data.toList=false:=by
 unfold good
 rw[<-Lib.size_eq,decide_eq_false h,Bool.false_and]
end Bv
namespace EH
open Strs Al Bv
open Ew (good)
open Kit (below_draws on)
theorem Y9 (s:ByteArray) (hs:s.size<=1000000) (w:World):Calls Tryz.prog 38 #[.string s,.string ⟨#[48,49]⟩] w fun e w'=> ∃d:ByteArray,e= .returned (.string d)/\d.toList.isEmpty=s.data.toList.all GV/\Below w.heap.size w w':=by
 refine Calls.mono (Any.strings_Trim_laid Tryz.U2 W14.aY s ⟨#[48,49]⟩ w (by omega) (by decide) (Go.Proofs.ascii_of_all (by decide))) ?_
 rintro e w1 ⟨rfl,hb⟩
 refine⟨_,rfl,?_,hb⟩
 rw[<-nu,Lib.toList_data,W14.Wx]
 show(Lib.trimS s.data.toList [48,49]).isEmpty=_
 cases Lib.trimS s.data.toList [48,49]<;>rfl
theorem Dy (a:Int) (n:Nat) (w:World):Calls Tryz.prog 157 #[.int .i64 a,.int .i64 n] w fun e w'=>e= .returned (.bool (place a n))/\w'=w:=by
 unfold place
 by_cases h1:0<=a
 ·by_cases h2:a<n
  ·rw[decide_eq_true h1,decide_eq_true h2]
   go_enter Tryz.func157,Tryz.ntmps157
   go_wp2_with fail
   go_ret
   exact⟨rfl,rfl⟩
  rw[decide_eq_true h1,decide_eq_false h2]
  go_enter Tryz.func157,Tryz.ntmps157
  go_wp2_with fail
  go_ret
  exact⟨rfl,rfl⟩
 rw[decide_eq_false h1,Bool.false_and]
 go_enter Tryz.func157,Tryz.ntmps157
 go_wp2_with fail
 go_ret
 exact⟨rfl,rfl⟩
theorem Y_ (x:AL) (w:World):Calls Tryz.prog 138 #[.agg (D8 x)] w fun e w'=>e= .returned (.bool (Je x.kind x.text))/\Below w.heap.size w w':=by
 obtain⟨k,t,a,b⟩:=x
 unfold Je
 simp only
 by_cases h1:k=1
 ·subst h1
  rw[if_pos rfl]
  by_cases hz:t.size=1
  ·rw[decide_eq_true hz]
   have tz:((t.size:Int)==1)=true:=by simp[hz]
   clear hz
   go_enter Tryz.func138,Tryz.ntmps138
   go_wp2_with (first
    |(refine Bd (r:=⟨1,t,a,b⟩) rfl (.tmp 0) rfl rfl ?_;intro w1 b1 e1 p1 l1 z1;have c0:=p1.c0;have c1:=p1.c1;have L1:=hid l1;clear e1 p1 l1 z1;simp only at c0 c1))
   go_ret
   exact⟨rfl,L1.out⟩
  rw[decide_eq_false hz]
  have tz:((t.size:Int)==1)=false:=by simp;omega
  clear hz
  go_enter Tryz.func138,Tryz.ntmps138
  go_wp2_with (first
   |(refine Bd (r:=⟨1,t,a,b⟩) rfl (.tmp 0) rfl rfl ?_;intro w1 b1 e1 p1 l1 z1;have c0:=p1.c0;have c1:=p1.c1;have L1:=hid l1;clear e1 p1 l1 z1;simp only at c0 c1))
  go_ret
  exact⟨rfl,L1.out⟩
 rw[if_neg h1]
 have t1:(k==1)=false:=by simpa using h1
 by_cases h3:k=3
 ·subst h3
  rw[if_pos rfl]
  by_cases hz:t.size=256
  ·rw[ny t hz]
   have tz:((t.size:Int)==256)=true:=by simp[hz]
   have HT:=hid (fun w=>Y9 t (by omega) w)
   clear hz
   generalize t.data.toList.all GV=g at*
   go_enter Tryz.func138,Tryz.ntmps138
   go_wp2_with (first
    |(refine Bd (r:=⟨3,t,a,b⟩) rfl (.tmp 0) rfl rfl ?_;intro w1 b1 e1 p1 l1 z1;have c0:=p1.c0;have c1:=p1.c1;have L1:=hid l1;clear e1 p1 l1 z1;simp only at c0 c1))
   refine(HT.out _).mono ?_
   rintro e w2 ⟨d,rfl,hd,l2⟩
   have L2:=hid (on L1.out l2)
   clear l2
   go_wp2_with fail
   go_ret
   exact⟨rfl,L2.out⟩
  rw[ik t hz]
  have tz:((t.size:Int)==256)=false:=by simp;omega
  clear hz
  go_enter Tryz.func138,Tryz.ntmps138
  go_wp2_with (first
   |(refine Bd (r:=⟨3,t,a,b⟩) rfl (.tmp 0) rfl rfl ?_;intro w1 b1 e1 p1 l1 z1;have c0:=p1.c0;have c1:=p1.c1;have L1:=hid l1;clear e1 p1 l1 z1;simp only at c0 c1))
  go_ret
  exact⟨rfl,L1.out⟩
 rw[if_neg h3]
 have t3:(k==3)=false:=by simpa using h3
 clear h1 h3
 by_cases hz:t.size=0
 ·rw[decide_eq_true hz]
  have te:=Kit.Az (s:=t) (by omega)
  clear hz
  go_enter Tryz.func138,Tryz.ntmps138
  go_wp2_with (first
   |(refine Bd (r:=⟨k,t,a,b⟩) rfl (.tmp 0) rfl rfl ?_;intro w1 b1 e1 p1 l1 z1;have c0:=p1.c0;have c1:=p1.c1;have L1:=hid l1;clear e1 p1 l1 z1;simp only at c0 c1))
  go_ret
  exact⟨rfl,L1.out⟩
 rw[decide_eq_false hz]
 have te:=Kit.Ap (s:=t) (by omega)
 clear hz
 go_enter Tryz.func138,Tryz.ntmps138
 go_wp2_with (first
  |(refine Bd (r:=⟨k,t,a,b⟩) rfl (.tmp 0) rfl rfl ?_;intro w1 b1 e1 p1 l1 z1;have c0:=p1.c0;have c1:=p1.c1;have L1:=hid l1;clear e1 p1 l1 z1;simp only at c0 c1))
 go_ret
 exact⟨rfl,L1.out⟩
end EH
namespace BR
open Go Bv
open Ew (has)
abbrev Text:=List UInt8
abbrev Mark:=Nat×Nat
def ins (L:List AL) (i:Nat):AL:=L.getD i ⟨0,no,0,0⟩
def IL (x:AL) (n q:Nat):List Nat:=
 if x.kind=6 then[x.x.toNat,x.y.toNat]else if x.kind=8 then[x.x.toNat]else if x.kind=4 then(if q=0 then[x.x.toNat]else[])else if x.kind=5 then(if q=n then[x.x.toNat]else[])else[]
def takes (x:AL) (c:UInt8):Bool:=
 if x.kind=1 then decide (x.text.data.toList.head? =some c)else if x.kind=2 then decide (c≠10)else if x.kind=3 then has x.text.data.toList c.toNat else false
inductive Reach (L:List AL) (s:Text) (b:Nat):Nat->Nat->Prop where
 |start:Reach L s b 0 b
 |on {i q j:Nat}:Reach L s b i q->j∈IL (ins L i) s.length q->Reach L s b j q
 |byte {i q:Nat} {c:UInt8}:Reach L s b i q->s[q]? =some c->takes (ins L i) c=true->Reach L s b (ins L i).x.toNat (q+1)
def LP (L:List AL) (s:Text) (b q:Nat):Prop:= ∃i,(ins L i).kind=7/\Reach L s b i q
inductive ER (L:List AL) (n q:Nat):Nat->Nat->Prop where
 |refl (i:Nat):ER L n q i i
 |step {i j k:Nat}:ER L n q i j->k∈IL (ins L j) n q->ER L n q i k
structure Fair (L:List AL):Prop where
 some_:0<L.length
 rM: ∀i n q j,j∈IL (ins L i) n q->j<L.length
 il: ∀i c,takes (ins L i) c=true->(ins L i).x.toNat<L.length
section
variable {L:List AL} {s:Text} {b i j q n t:Nat}
theorem Reach.er (h:Reach L s b i q) (e:ER L s.length q i j):Reach L s b j q:=by
 induction e with
 |refl=>exact h
 |step _ hk ih=>exact ih.on hk
theorem Reach.le (h:Reach L s b i q):b<=q:=by
 induction h with
 |start=>exact Nat.le_refl _
 |on _ _ ih=>exact ih
 |byte _ _ _ ih=>omega
theorem Reach.mM (h:Reach L s b i q) (hb:b<=s.length):q<=s.length:=by
 induction h with
 |start=>exact hb
 |on _ _ ih=>exact ih
 |byte _ hc _ _=>
  have:=(List.getElem?_eq_some_iff.1 hc).1
  omega
theorem Reach.cases (h:Reach L s b j q):(q=b/\ER L s.length q 0 j)\/ ∃q0 i c,q=q0+1/\Reach L s b i q0/\s[q0]? =some c/\takes (ins L i) c=true/\ER L s.length q (ins L i).x.toNat j:=by
 induction h with
 |start=>exact Or.inl ⟨rfl,.refl _⟩
 |on _ hk ih=>
  rcases ih with⟨rfl,e⟩|⟨q0,i,c,rfl,h1,h2,h3,h4⟩
  ·exact Or.inl ⟨rfl,e.step hk⟩
  exact Or.inr ⟨q0,i,c,rfl,h1,h2,h3,h4.step hk⟩
 |byte h hc ht _=>exact Or.inr ⟨_,_,_,rfl,h,hc,ht,.refl _⟩
theorem Reach.mid (h:Reach L s b i t): ∀q,b<=q->q<=t-> ∃j,Reach L s b j q:=by
 induction h with
 |start=>intro q h1 h2;have:q=b:=by omega
         subst this;exact⟨_,.start⟩
 |on _ _ ih=>exact ih
 |byte h hc ht ih=>
  intro q' h1 h2
  rcases Nat.lt_or_ge q' _ with hlt|hge
  ·exact ih q' h1 (Nat.le_of_lt_succ hlt)
  have:=Nat.le_antisymm h2 hge
  subst this
  exact⟨_,h.byte hc ht⟩
end
/-! marks -/
def steps (M:List Mark):List Nat:=M.map Prod.fst
def put (M:List Mark) (m:Mark):List Mark:=if M.any (fun x=>x.1==m.1)then M else M++ [m]
def puts (M:List Mark) (l:List Nat) (b:Nat):List Mark:=l.foldl (fun M j=>put M (j,b)) M
def go (L:List AL) (n q b:Nat):Nat->Nat->List Mark->List Mark
 |0,_,M=>M
 |f+1,i,M=>match M[i]? with
  |none=>M
  |some m=>go L n q b f (i+1) (puts M (IL (ins L m.1) n q) b)
def Eo (L:List AL) (n q:Nat) (M:List Mark) (m:Mark):List Mark:=go L n q m.2 L.length M.length (put M m)
section
variable {L:List AL} {M:List Mark} {m:Mark} {n q b i j:Nat}
theorem UG:M.any (fun x=>x.1==m.1)=true↔m.1∈steps M:=by
 unfold steps
 simp
theorem Mi (h:m.1∈steps M):put M m=M:=by unfold put;rw[if_pos (UG.2 h)]
theorem Mj (h:m.1∉steps M):put M m=M++ [m]:=by unfold put;rw[if_neg (fun e=>h (UG.1 e))]
theorem Pf (M:List Mark) (m:Mark):M<+:put M m:=by
 unfold put
 split
 ·exact List.prefix_refl _
 exact List.prefix_append _ _
theorem ag (M:List Mark) (m:Mark):m.1∈steps (put M m):=by
 by_cases h:m.1∈steps M
 ·rw[Mi h];exact h
 rw[Mj h];unfold steps;simp
theorem put_mem {x:Mark} (h:x∈put M m):x∈M\/x=m:=by
 by_cases c:m.1∈steps M
 ·rw[Mi c]at h;exact Or.inl h
 rw[Mj c]at h;simpa using h
theorem Nh (h:(steps M).Nodup):(steps (put M m)).Nodup:=by
 by_cases c:m.1∈steps M
 ·rw[Mi c];exact h
 rw[Mj c]
 unfold steps at*
 rw[List.map_append,List.nodup_append]
 refine⟨h,by simp,?_⟩
 intro a ha b hb e
 simp at hb
 subst hb e
 exact c ha
theorem Iq {M M':List Mark} (h:M<+:M') (hj:j∈steps M):j∈steps M':=by
 unfold steps at*
 obtain⟨x,hx,rfl⟩:=List.mem_map.1 hj
 exact List.mem_map.2 ⟨x,h.subset hx,rfl⟩
theorem XI (l:List Nat) (b:Nat): ∀M:List Mark,M<+:puts M l b:=by
 unfold puts
 induction l with
 |nil=>intro M;exact List.prefix_refl _
 |cons x l ih=>intro M;exact(Pf M (x,b)).trans (ih _)
theorem iq {l:List Nat} {b:Nat}: ∀ {M:List Mark},j∈l->j∈steps (puts M l b):=by
 unfold puts
 induction l with
 |nil=>intro M h;simp at h
 |cons x l ih=>
  intro M h
  rcases List.mem_cons.1 h with rfl|h
  ·exact Iq (XI l b _) (ag M (j,b))
  exact ih h
theorem XJ {l:List Nat} {b:Nat} {x:Mark}: ∀ {M:List Mark},x∈puts M l b->x∈M\/(x.1∈l/\x.2=b):=by
 unfold puts
 induction l with
 |nil=>intro M h;exact Or.inl h
 |cons y l ih=>
  intro M h
  rcases ih h with h|⟨h1,h2⟩
  ·rcases put_mem h with h|rfl
   ·exact Or.inl h
   exact Or.inr ⟨by simp,rfl⟩
  exact Or.inr ⟨by simp[h1],h2⟩
theorem Qs {l:List Nat} {b:Nat}: ∀ {M:List Mark},(steps M).Nodup->(steps (puts M l b)).Nodup:=by
 unfold puts
 induction l with
 |nil=>intro M h;exact h
 |cons y l ih=>intro M h;exact ih (Nh h)
theorem Mk: ∀(n:Nat) {l:List Nat},l.Nodup->(∀x∈l,x<n)->l.length<=n
 |0,[],_,_=>Nat.le_refl _
 |0,x::l,_,h=>absurd (h x (by simp)) (by omega)
 |n+1,l,hn,h=>by
  by_cases c:n∈l
  ·have h1:=Mk n (l:=l.erase n) (hn.erase n) (fun x hx=>by
     have h2:=h x (List.mem_of_mem_erase hx)
     have h3:x≠n:=fun e=>by subst e;exact(List.Nodup.not_mem_erase hn) hx
     omega)
   rw[List.length_erase_of_mem c]at h1
   have:=List.length_pos_of_mem c
   omega
  have h1:=Mk n hn (fun x hx=>by
    have h2:=h x hx
    have h3:x≠n:=fun e=>by subst e;exact c hx
    omega)
  omega
structure Row (L:List AL) (n q:Nat) (M:List Mark):Prop where
 nodup:(steps M).Nodup
 low: ∀x∈M,x.1<L.length
 shut: ∀x∈M,∀j∈IL (ins L x.1) n q,j∈steps M
 rise:M.Pairwise fun x y=>x.2<=y.2
theorem Row.nil (L:List AL) (n q:Nat):Row L n q []:=⟨by simp[steps],by simp,by simp,.nil⟩
structure Going (L:List AL) (n q b i0:Nat) (M0:List Mark) (i:Nat) (M:List Mark):Prop where
 pre:M0<+:M
 nodup:(steps M).Nodup
 low: ∀x∈M,x.1<L.length
 from_: ∀x∈M,x∈M0\/(x.2=b/\ER L n q i0 x.1)
 shut: ∀k x,k<i->M[k]? =some x-> ∀j∈IL (ins L x.1) n q,j∈steps M
 has:i0∈steps M
theorem Going.next {i0:Nat} {M0:List Mark} {x:Mark} (hf:Fair L) (h:Going L n q b i0 M0 i M) (hM:M0.length<=i) (h0: ∀y∈M0,∀j∈IL (ins L y.1) n q,j∈steps M) (hx:M[i]? =some x):Going L n q b i0 M0 (i+1) (puts M (IL (ins L x.1) n q) b):=by
 have hpre:=XI (IL (ins L x.1) n q) b M
 refine⟨h.pre.trans hpre,Qs h.nodup,fun y hy=> ?_,fun y hy=> ?_,fun k y hk hy j hj=> ?_,Iq hpre h.has⟩
 ·rcases XJ hy with h1|⟨h1,-⟩
  ·exact h.low y h1
  exact hf.rM _ _ _ _ h1
 ·rcases XJ hy with h1|⟨h1,h2⟩
  ·exact h.from_ y h1
  have hxm:=List.mem_of_getElem? hx
  rcases h.from_ x hxm with h3|⟨h3,h4⟩
  ·have h5:=h0 x h3 _ h1
   obtain⟨z,hz,e⟩:=List.mem_map.1 h5
   -- x's step was there before:its own kids are marked already
   have h6:y∈M:=by
    have hnd:=Qs (l:=IL (ins L x.1) n q) (b:=b) h.nodup
    have hzp:=hpre.subset hz
    have:z=y:=by
     have hi:=List.pairwise_map.1 hnd
     by_cases zQ:z=y
     ·exact zQ
     exfalso
     obtain⟨k1,hk1,e1⟩:=List.mem_iff_getElem.1 hzp
     obtain⟨k2,hk2,e2⟩:=List.mem_iff_getElem.1 hy
     have hp:=List.pairwise_iff_getElem.1 hi
     rcases Nat.lt_trichotomy k1 k2 with q1|q1|q1
     ·have:=hp k1 k2 hk1 hk2 q1
      rw[e1,e2]at this
      exact this e
     ·subst q1;exact zQ (e1.symm.trans e2)
     have:=hp k2 k1 hk2 hk1 q1
     rw[e1,e2]at this
     exact this e.symm
    rw[<-this];exact hz
   exact h.from_ y h6
  exact Or.inr ⟨h2,h4.step h1⟩
 have hlt:k<M.length\/M.length<=k:=Nat.lt_or_ge _ _
 have hi:=(List.getElem?_eq_some_iff.1 hx).1
 have xg:M[k]? =some y:=by
  obtain⟨r,hr⟩:=hpre
  rw[<-hr,List.getElem?_append_left (by omega)]at hy
  exact hy
 by_cases hki:k=i
 ·subst hki
  rw[hx]at xg
  cases xg
  exact iq hj
 exact Iq hpre (h.shut k y (by omega) xg j hj)
theorem XK {i0:Nat} {M0:List Mark} (hf:Fair L): ∀(f:Nat) {i:Nat} {M:List Mark},Going L n q b i0 M0 i M->M0.length<=i->(∀y∈M0,∀j∈IL (ins L y.1) n q,j∈steps M0)->L.length<=i+f-> ∃i',Going L n q b i0 M0 i' (go L n q b f i M)/\(go L n q b f i M).length<=i'
 |0,i,M,h,_,_,hl=>by
  refine⟨i,h,?_⟩
  have:=Mk L.length h.nodup (fun x hx=>by
   obtain⟨y,hy,rfl⟩:=List.mem_map.1 hx
   exact h.low y hy)
  simp[steps]at this
  show M.length<=i
  omega
 |f+1,i,M,h,hM,h0,hl=>by
  unfold go
  split
  ·rename_i hn
   exact⟨i,h,List.getElem?_eq_none_iff.1 hn⟩
  rename_i x hx
  exact XK hf f (h.next hf hM (fun y hy j hj=>Iq h.pre (h0 y hy j hj)) hx) (by omega) h0 (by omega)
structure xh (L:List AL) (n q:Nat) (m:Mark) (M M':List Mark):Prop where
 pre:M<+:M'
 row:Row L n q M'
 from_: ∀x∈M',x∈M\/(x.2=m.2/\ER L n q m.1 x.1)
 all: ∀j,ER L n q m.1 j-> ∃x∈M',x.1=j/\x.2<=m.2
theorem UH (hf:Fair L) (h:Row L n q M) (hm:m.1<L.length) (hb: ∀x∈M,x.2<=m.2):xh L n q m M (Eo L n q M m):=by
 obtain⟨i',hg,hi⟩:=XK (b:=m.2) (i0:=m.1) (M0:=M) hf L.length (i:=M.length) (M:=put M m) ⟨Pf M m,Nh h.nodup,fun x hx=>by
     rcases put_mem hx with h1|rfl
     ·exact h.low x h1
     ·exact hm,fun x hx=>by
     rcases put_mem hx with h1|rfl
     ·exact Or.inl h1
     ·exact Or.inr ⟨rfl,.refl _⟩,fun k x hk hx j hj=>by
     have h1:M[k]? =some x:=by
      obtain⟨r,hr⟩:=Pf M m
      rw[<-hr,List.getElem?_append_left hk]at hx
      exact hx
     exact Iq (Pf M m) (h.shut x (List.mem_of_getElem? h1) j hj),ag M m⟩ (Nat.le_refl _) h.shut (by omega)
 change Going L n q m.2 m.1 M i' (Eo L n q M m)at hg
 change (Eo L n q M m).length<=i' at hi
 generalize Eo L n q M m=R at*
 have qH: ∀x∈R,∀j∈IL (ins L x.1) n q,j∈steps R:=fun x hx j hj=>by
  obtain⟨k,hk,rfl⟩:=List.mem_iff_getElem.1 hx
  exact hg.shut k _ (by omega) (List.getElem?_eq_getElem hk) j hj
 have hle: ∀x∈R,x.2<=m.2:=fun x hx=>by
  rcases hg.from_ x hx with h1|⟨h1,-⟩
  ·exact hb x h1
  omega
 have hall: ∀j,ER L n q m.1 j->j∈steps R:=fun j he=>by
  induction he with
  |refl=>exact hg.has
  |step _ hk ih=>
   obtain⟨x,hx,rfl⟩:=List.mem_map.1 ih
   exact qH x hx _ hk
 refine⟨hg.pre,⟨hg.nodup,hg.low,qH,?_⟩,hg.from_,fun j hj=> ?_⟩
 ·obtain⟨N,rfl⟩:=hg.pre
  rw[List.pairwise_append]
  have hN: ∀x∈N,x.2=m.2\/x∈M:=fun x hx=>by
   rcases hg.from_ x (by simp[hx])with h1|⟨h1,-⟩
   ·exact Or.inr h1
   exact Or.inl h1
  have hNd: ∀x∈N,x∉M:=fun x hx hxM=>by
   have:=hg.nodup
   unfold steps at this
   rw[List.map_append,List.nodup_append]at this
   exact this.2.2 x.1 (List.mem_map.2 ⟨x,hxM,rfl⟩) x.1 (List.mem_map.2 ⟨x,hx,rfl⟩) rfl
  have xk: ∀x∈N,x.2=m.2:=fun x hx=>by
   rcases hN x hx with h1|h1
   ·exact h1
   exact absurd h1 (hNd x hx)
  refine⟨h.rise,?_,fun x hx y hy=> ?_⟩
  ·exact List.Pairwise.imp_of_mem (R:=fun _ _=>True) (fun ha hb _=>by rw[xk _ ha,xk _ hb];exact Nat.le_refl _) (List.pairwise_of_forall (fun _ _=>trivial))
  rw[xk y hy];exact hb x hx
 obtain⟨x,hx,rfl⟩:=List.mem_map.1 (hall j hj)
 exact⟨x,hx,rfl,hle x hx⟩
end
end BR
end Go.Proofs.YtfgegjinhkgpbaaGreatDoor
