/-
  Texts joined, in build order, each with its own comment and its own conditions: W15RefSeq, W15RefAlt, W16GoOn, W16Next.
-/
import Derived.Test.YtehdnbidgphecaaGreatDoorJ08
import Derived.Test.YtehdnbidgphecaaGreatDoorJ11
import Derived.Deep.Onto
import Derived.Test.YtehdnbidgphecaaGreatDoorTake
import Derived.Test.YtehdnbidgphecaaGreatDoorJ09
import Derived.Test.YtehdnbidgphecaaGreatDoorJ04
namespace Go.Proofs.YtehdnbidgphecaaGreatDoor
set_option maxHeartbeats 4000000
set_option maxRecDepth 100000
open Go.RowKit
open Lib (hid)
namespace W15
open Strs Recs M15
open M14 (Piece size sizes)
open W14 (Raw Raws rawA rawC PAt PAll PBox PLow box_arg load_piece load_at cell_block)
open Kit (below_draws on)
def Gets (w:World) (P:List Inst) (e:Ending) (w':World):Prop:= ∃v,e= .returned v∧w'.ownsRow w.heap.size 62 4 v P.length (P.flatMap insC)∧Below w.heap.size w w'
def RSt (p:Piece):Prop:= ∀(w:World) (r:Raw) (a:Nat),PLow w r p→size p≤4000→a+size p≤8000→Calls Tryz.prog 34 #[.agg (rawA r),.int .i64 a] w (Gets w (steps p a))
structure St (w0 w:World) (b1:Nat) (r:Raw) (vo:Value) (L:List Inst):Prop where
 own:w.ownsRow w0.heap.size 62 4 vo L.length (L.flatMap insC)
 box:PBox w b1 r
 low:Below w0.heap.size w0 w
section
variable {w0 w w':World} {b1:Nat} {r:Raw} {vo v':Value} {L M:List Inst}
theorem St.below (h:St w0 w b1 r vo L) (hb:Below w.heap.size w w'):St w0 w' b1 r vo L:=
 ⟨own_block_same h.own fun k hk=>hb.block k (h.own.lt k hk).2,h.box.below hb,h.low.trans (hb.mono h.low.size)⟩
theorem pbox_put {base c:Nat} (hp:PBox w c r) (h:w.ownsRow base 62 4 vo L.length (L.flatMap insC)) (hg:Put vo v' w w'):PBox w' c r:=by
 obtain⟨-,-,-,-,g5⟩:=hg.grown
 refine(g5 c hp.lt fun q=> ?_).trans hp
 obtain⟨cur,h1⟩:=own_type h q.symm
 have h2:w.heap[c]? =_:=hp
 rw[h1]at h2
 injection h2 with h2
 injection h2 with _ h2
 exact absurd h2 (by decide)
theorem St.put (h:St w0 w b1 r vo L) (ho:w'.ownsRow w0.heap.size 62 4 v' (L++M).length ((L++M).flatMap insC)) (hp:Put vo v' w w'):St w0 w' b1 r v' (L++M):=by
 have g:=hp.grown
 refine⟨ho,pbox_put h.box h.own hp,h.low.trans ⟨g.os,g.tape,g.output,g.size,fun k hk=>g.block k (Nat.lt_of_lt_of_le hk h.low.size) fun q=> ?_⟩⟩
 have:=(h.own.lt k q.symm).1
 omega
theorem St.form (h:St w0 w b1 r vo L): ∃A c,vo= .slice A L.length c∧L.length≤c∧c≤9223372036854775807:=by
 obtain⟨A,c,e,h1,h2⟩:=(Recs.of_own insC_len rfl h.own).form
 unfold maxLen at h2
 exact⟨A,c,e,h1,h2⟩
theorem St.gets (h:St w0 w b1 r vo L):Gets w0 L (.returned vo) w:=⟨vo,rfl,h.own,h.low⟩
theorem St.start (hb:PBox w b1 r) (hl:Below w0.heap.size w0 w):St w0 w b1 r (.slice none 0 0) []:=⟨World.ownsRow_nil _ _ _ _,hb,hl⟩
end
theorem kids_now {w0 w:World} {A:Option Addr} {c:Nat} {raws:List Raw} {ks:List Piece} (h:W14.Kids w0 A c raws ks) (hl:Below w0.heap.size w0 w):W14.Kids w A c raws ks:=h.below hl
theorem size_of {p:Piece} (h:M15.Good p) (w:World) (r:Raw) (hl:PLow w r p):Calls Tryz.prog 8 #[.agg (rawA r)] w fun e w'=>e= .returned (.int .i64 (size p))∧Below w.heap.size w w':=
 (rgsize_any p w r hl).mono fun e w' q=>by
  have:=q.1
  rw[gsize_eq h]at this
  exact⟨this,q.2⟩
theorem rst_leaf {k:Int} (hk:1≤k∧k≤6) (t:ByteArray):RSt (M14.leaf k t):=by
 intro w r a h _ ha
 rw[steps_leaf hk]
 unfold M14.leaf at h
 obtain⟨A,c,raws,rfl,k1⟩:=h.parts
 have hw:wrap64 ((a:Int)+1)=((a+1:Nat):Int):=by unfold wrap64;omega
 obtain⟨n,hn⟩: ∃n,a+1=n:=⟨_,rfl⟩
 unfold one
 rw[hn]at hw ⊢
 clear h k1 ha hn
 simp only[List.length_nil]
 have:k=1∨k=2∨k=3∨k=4∨k=5∨k=6:=by omega
 clear hk
 rcases this with rfl|rfl|rfl|rfl|rfl|rfl
 ·rw[if_pos rfl]
  go_enter Tryz.func34,Tryz.ntmps34
  go_wp2_with (first
   |(refine box_arg (r:=⟨1,t,A,0,c,0,0⟩) rfl (.tmp 0) rfl rfl ?_;intro w1 b1 e1 p1 l1 z1;have P1:=hid p1;have a0:=p1.c0;have L1:=hid l1;clear e1 p1 l1 z1;simp only at a0))
  go_ret
  exact(St.start P1.out L1.out).gets
 ·have hone:(if(2:Int)=1 then([]:List Inst)else[(⟨2-1,if(2:Int)=2∨(2:Int)=4 then t else no,(n:Nat),0⟩:Inst)])= [⟨1,t,(n:Nat),0⟩]:=rfl
  rw[hone]
  clear hone
  go_enter Tryz.func34,Tryz.ntmps34
  go_wp2_with (first
   |(refine box_arg (r:=⟨2,t,A,0,c,0,0⟩) rfl (.tmp 0) rfl rfl ?_;intro w1 b1 e1 p1 l1 z1;have a0:=p1.c0;have a1:=p1.c1;have L1:=hid l1;clear e1 p1 l1 z1;simp only at a0 a1)
   |(refine slice_ins (r:=⟨1,t,(n:Nat),0⟩) rfl (.tmp 23) rfl rfl ?_;intro w2 b2 e2 p2 l2 z2 o2;have L2:=hid l2;have O2:=hid o2;clear e2 p2 l2 z2 o2))
  go_ret
  exact⟨_,rfl,O2.out.mono L1.out.size,on L1.out L2.out⟩
 ·have hone:(if(3:Int)=1 then([]:List Inst)else[(⟨3-1,if(3:Int)=2∨(3:Int)=4 then t else no,(n:Nat),0⟩:Inst)])= [⟨2,⟨#[]⟩,(n:Nat),0⟩]:=rfl
  rw[hone]
  clear hone
  go_enter Tryz.func34,Tryz.ntmps34
  go_wp2_with (first
   |(refine box_arg (r:=⟨3,t,A,0,c,0,0⟩) rfl (.tmp 0) rfl rfl ?_;intro w1 b1 e1 p1 l1 z1;have a0:=p1.c0;have a1:=p1.c1;have L1:=hid l1;clear e1 p1 l1 z1;simp only at a0 a1)
   |(refine slice_ins (r:=⟨2,⟨#[]⟩,(n:Nat),0⟩) rfl (.tmp 29) rfl rfl ?_;intro w2 b2 e2 p2 l2 z2 o2;have L2:=hid l2;have O2:=hid o2;clear e2 p2 l2 z2 o2))
  go_ret
  exact⟨_,rfl,O2.out.mono L1.out.size,on L1.out L2.out⟩
 ·have hone:(if(4:Int)=1 then([]:List Inst)else[(⟨4-1,if(4:Int)=2∨(4:Int)=4 then t else no,(n:Nat),0⟩:Inst)])= [⟨3,t,(n:Nat),0⟩]:=rfl
  rw[hone]
  clear hone
  go_enter Tryz.func34,Tryz.ntmps34
  go_wp2_with (first
   |(refine box_arg (r:=⟨4,t,A,0,c,0,0⟩) rfl (.tmp 0) rfl rfl ?_;intro w1 b1 e1 p1 l1 z1;have a0:=p1.c0;have a1:=p1.c1;have L1:=hid l1;clear e1 p1 l1 z1;simp only at a0 a1)
   |(refine slice_ins (r:=⟨3,t,(n:Nat),0⟩) rfl (.tmp 37) rfl rfl ?_;intro w2 b2 e2 p2 l2 z2 o2;have L2:=hid l2;have O2:=hid o2;clear e2 p2 l2 z2 o2))
  go_ret
  exact⟨_,rfl,O2.out.mono L1.out.size,on L1.out L2.out⟩
 ·have hone:(if(5:Int)=1 then([]:List Inst)else[(⟨5-1,if(5:Int)=2∨(5:Int)=4 then t else no,(n:Nat),0⟩:Inst)])= [⟨4,⟨#[]⟩,(n:Nat),0⟩]:=rfl
  rw[hone]
  clear hone
  go_enter Tryz.func34,Tryz.ntmps34
  go_wp2_with (first
   |(refine box_arg (r:=⟨5,t,A,0,c,0,0⟩) rfl (.tmp 0) rfl rfl ?_;intro w1 b1 e1 p1 l1 z1;have a0:=p1.c0;have a1:=p1.c1;have L1:=hid l1;clear e1 p1 l1 z1;simp only at a0 a1)
   |(refine slice_ins (r:=⟨4,⟨#[]⟩,(n:Nat),0⟩) rfl (.tmp 43) rfl rfl ?_;intro w2 b2 e2 p2 l2 z2 o2;have L2:=hid l2;have O2:=hid o2;clear e2 p2 l2 z2 o2))
  go_ret
  exact⟨_,rfl,O2.out.mono L1.out.size,on L1.out L2.out⟩
 ·have hone:(if(6:Int)=1 then([]:List Inst)else[(⟨6-1,if(6:Int)=2∨(6:Int)=4 then t else no,(n:Nat),0⟩:Inst)])= [⟨5,⟨#[]⟩,(n:Nat),0⟩]:=rfl
  rw[hone]
  clear hone
  go_enter Tryz.func34,Tryz.ntmps34
  go_wp2_with (first
   |(refine box_arg (r:=⟨6,t,A,0,c,0,0⟩) rfl (.tmp 0) rfl rfl ?_;intro w1 b1 e1 p1 l1 z1;have a0:=p1.c0;have a1:=p1.c1;have L1:=hid l1;clear e1 p1 l1 z1;simp only at a0 a1)
   |(refine slice_ins (r:=⟨5,⟨#[]⟩,(n:Nat),0⟩) rfl (.tmp 49) rfl rfl ?_;intro w2 b2 e2 p2 l2 z2 o2;have L2:=hid l2;have O2:=hid o2;clear e2 p2 l2 z2 o2))
  go_ret
  exact⟨_,rfl,O2.out.mono L1.out.size,on L1.out L2.out⟩
theorem rst_seq {t:ByteArray} {ks:List Piece} {m tp:Int} (IH: ∀i (hi:i<ks.length),RSt ks[i]) (hs: ∀q,q∈ks→ ∀a,(steps q a).length=size q) {w:World} {r:Raw} {a:Nat} (h:PLow w r (.mk 7 t ks m tp)) (hz:sizes ks≤4000) (ha:a+sizes ks≤8000):
    Calls Tryz.prog 34 #[.agg (rawA r),.int .i64 a] w (Gets w (seqs ks a)):=by
 obtain⟨A,c,raws,rfl,k1⟩:=h.parts
 have HI:=hid IH
 have HS:=hid hs
 have HZ:=hid hz
 have HA:=hid ha
 have HR:=hid k1.room
 have K0:=hid k1
 clear h k1 IH hs hz ha
 go_enter Tryz.func34,Tryz.ntmps34
 go_wp2_with (first
  |(refine box_arg (r:=⟨7,t,A,ks.length,c,m,tp⟩) rfl (.tmp 0) rfl rfl ?_;intro w1 b1 e1 p1 l1 z1;have a0:=p1.c0;have P1:=hid p1;have L1:=hid l1;clear e1 p1 l1 z1;simp only at a0))
 clear a0
 go_loopg [5,6] ks.length (fun gk s5 s6 wr=> ∃(i:Nat) (vo:Value),s5=vo∧s6= .int .i64 i∧Hid (i+gk=ks.length)∧Hid (St w wr b1 ⟨7,t,A,ks.length,c,m,tp⟩ vo (seqs (ks.take i) a)))
 case atStart=>exact⟨0,.slice none 0 0,rfl,rfl,by unfold Hid;omega,by unfold Hid;simp only[List.take_zero,seqs];exact .start P1.out L1.out⟩
 case round=>
  obtain⟨i,vo,rfl,rfl,hig,SS⟩:=hrel
  have a2:=SS.out.box.c2
  simp only at a2
  have hn1:=HR.out.1
  have hn2:=HR.out.2
  by_cases hi:i<ks.length
  ·have ti:(i:Int)<(ks.length:Int):=by omega
   have KK:=kids_now K0.out SS.out.low
   obtain⟨g1,o1,rfl,C1⟩:=KK.at_ (Nat.lt_of_le_of_lt (Nat.zero_le _) hi)
   obtain⟨hr1,q1⟩:=KK.kid hi
   have E1:=hid (C1 i hr1)
   obtain⟨rk,hrk⟩: ∃rk,raws[i]'hr1=rk:=⟨_,rfl⟩
   rw[hrk]at E1 q1
   have hlen0:=seqs_take_len HS.out i a
   have hln:=HS.out _ (List.getElem_mem hi)
   have hnx:=sizes_next hi
   have hle:=sizes_take_le ks (i+1)
   have hz:=HZ.out
   have hb:=HA.out
   have HXX:=fun S=>seqs_next HS.out hi (a:=S)
   have hIH:=HI.out i hi wr rk
   obtain⟨p,hp⟩: ∃p,ks[i]'hi=p:=⟨_,rfl⟩
   rw[hp]at hln hnx hIH HXX
   obtain⟨N,hN⟩: ∃N,sizes (ks.take i)=N:=⟨_,rfl⟩
   rw[hN]at hlen0 hnx HXX
   obtain⟨N2,hN2⟩: ∃N2,sizes (ks.take (i+1))=N2:=⟨_,rfl⟩
   rw[hN2]at hnx hle
   obtain⟨Z,hZ⟩: ∃Z,sizes ks=Z:=⟨_,rfl⟩
   rw[hZ]at hle hz hb
   obtain⟨s,hs⟩: ∃s,size p=s:=⟨_,rfl⟩
   rw[hs]at hnx hln
   obtain⟨S,hSa⟩: ∃S,a+N=S:=⟨_,rfl⟩
   have hIH2:=hIH S (hp▸q1)
   rw[hs]at hIH2
   clear hN hN2 hZ hs
   have hw:wrap64 ((a:Int)+(N:Int))=(S:Int):=by clear hlen0 hln hIH hIH2 HXX;unfold wrap64;omega
   have HC:=hid (hIH2 (by clear hlen0 hln hIH hIH2 HXX hw;omega) (by clear hlen0 hln hIH hIH2 HXX hw;omega))
   have HX:Hid (seqs (ks.take (i+1)) a=seqs (ks.take i) a++steps p S):=by unfold Hid;rw[HXX a,hSa]
   have HL:Hid ((seqs (ks.take i) a).length+(steps p S).length≤1000000):=by unfold Hid;rw[hlen0,hln S];clear hlen0 hln hIH hIH2 HXX hw HC HX;omega
   obtain⟨Ao,co,rfl,hco1,hco2⟩:=SS.out.form
   rw[hlen0]at hco1 SS ⊢
   have hwi:Hid (wrap64 ((i:Int)+1)=((i+1:Nat):Int)):=by unfold Hid wrap64;omega
   have HI2:=hid hi
   have HCO:=hid (show N≤co∧co≤9223372036854775807 from⟨hco1,hco2⟩)
   clear C1 q1 hrk hlen0 hln hnx hle hSa KK hz hb HXX hIH hIH2 hp hco1 hco2
   have hc3:=HCO.out.1
   have hc4:=HCO.out.2
   clear hi
   go_wp2_with (first|(refine load_at rfl (.tmp 64) rfl rfl (r:=rk) E1.out ?_))
   refine HC.out.mono ?_
   rintro e w2 ⟨vs,rfl,o2,l2⟩
   have S2:=hid (SS.out.below l2)
   have R2:=hid (Recs.of_own insC_len rfl o2)
   clear o2 l2 a2 hw
   go_wp2_with (first
    |(refine append_ins rfl (.tmp 60) (.tmp 70) rfl rfl rfl S2.out.own R2.out HL.out S2.out.low.size ?_;intro v3 w3 o3 p3;have S3:=hid (S2.out.put o3 p3);clear o3 p3))
   rw[←HX.out]at S3
   cases gk with
   |zero=>exact absurd hig.out (by have:=HI2.out;omega)
   |succ g=>
    go_wp2_with fail
    go_roundg g
    case measure=>omega
    case rel=>exact⟨i+1,v3,rfl,by first|rfl|exact congrArg (Value.int .i64) hwi.out,by have:=hig.out;unfold Hid;omega,S3⟩
  ·have ti: ¬(i:Int)<(ks.length:Int):=by omega
   have hie:i=ks.length:=by have:=hig.out;omega
   have S2:=SS.out
   rw[hie,List.take_length]at S2
   have SF:=hid S2
   clear hie hi S2
   go_wp2_with fail
   go_ret
   exact SF.out.gets
end W15
namespace W15
open Strs Recs M15
open M14 (Piece size sizes)
open W14 (Raw Raws rawA rawC PAt PAll PBox PLow box_arg load_piece load_at cell_block)
open Kit (below_draws on)
theorem wrap_sum {a b c:Nat} (h:a+b=c) (hc:c≤100000):wrap64 ((a:Int)+(b:Int))=(c:Int):=by unfold wrap64;omega
theorem wrap_two {a c:Nat} (h:a+2=c) (hc:c≤100000):wrap64 ((a:Int)+2)=(c:Int):=by unfold wrap64;omega
theorem wrap_one {a c:Nat} (h:a+1=c) (hc:c≤9223372036854775807):wrap64 ((a:Int)+1)=(c:Int):=by unfold wrap64;omega
theorem kid_at {w0:World} {A:Option Addr} {c:Nat} {raws:List Raw} {ks:List Piece} (K0:W14.Kids w0 A c raws ks) {i:Nat} (hi:i<ks.length) {p:Piece} (hp:ks[i]=p): ∃g1 o1 rk,A=some ⟨g1,o1,none⟩∧g1<w0.heap.size∧PLow w0 rk p∧ ∀j,j<5→w0.cell? ⟨g1,o1+i*5+j,none⟩=(rawC rk)[j]? :=by
 obtain⟨g1,o1,hA,C1⟩:=K0.at_ (Nat.lt_of_le_of_lt (Nat.zero_le _) hi)
 obtain⟨hr1,q1⟩:=K0.kid hi
 refine⟨g1,o1,raws[i],hA,K0.2.1 _ hA (Nat.lt_of_le_of_lt (Nat.zero_le _) hr1),?_,C1 i hr1⟩
 rw[←hp];exact q1
theorem cells_on {w0 w:World} {g1 o:Nat} {rk:Raw} (h: ∀j,j<5→w0.cell? ⟨g1,o+j,none⟩=(rawC rk)[j]?) (hg:g1<w0.heap.size) (hl:Below w0.heap.size w0 w): ∀j,j<5→w.cell? ⟨g1,o+j,none⟩=(rawC rk)[j]? :=fun j hj=>(cell_block (hl.block g1 hg)).trans (h j hj)
set_option maxHeartbeats 8000000 in
theorem rst_alt {ks:List Piece} (hg:M15.Good (.mk 8 no ks 0 0)) (hgk: ∀p,p∈ks→M15.Good p) (IH: ∀i (hi:i<ks.length),RSt ks[i]) (hs: ∀q,q∈ks→ ∀a,(steps q a).length=size q) {w:World} {r:Raw} {a n E Sz:Nat} (h:PLow w r (.mk 8 no ks 0 0)) (hn:ks.length=n+1) (hS:size (.mk 8 no ks 0 0)=Sz) (hSz:sizes ks+2*n=Sz) (hz:Sz≤4000) (hE:a+Sz=E) (ha:E≤8000):
    Calls Tryz.prog 34 #[.agg (rawA r),.int .i64 a] w (Gets w (alts ks a E)):=by
 have HSZC:=hid (fun w r hl=>size_of hg w r hl)
 rw[hS]at HSZC
 have HLOW:=hid h
 obtain⟨A,c,raws,rfl,k1⟩:=h.parts
 have HI:=hid IH
 have HS:=hid hs
 have HGK:=hid hgk
 have HR:=hid k1.room
 have K0:=hid k1
 have HN:=hid hn
 have HSU:=hid hSz
 have HSUM:=hid (show True∧Sz≤4000∧a+Sz=E∧E≤8000 from⟨trivial,hz,hE,ha⟩)
 have hwE:=wrap_sum hE (by clear hSz;omega)
 obtain⟨nk,hnk⟩: ∃nk,ks.length=nk:=⟨_,rfl⟩
 have HNK:=hid hnk
 rw[hnk]at HR HLOW ⊢
 have HNN:=hid (show nk=n+1 by omega)
 clear h k1 IH hs hgk hg hS hSz hz hE ha hn hnk
 go_enter Tryz.func34,Tryz.ntmps34
 go_wp2_with (first
  |(refine box_arg (r:=⟨8,no,A,nk,c,0,0⟩) rfl (.tmp 0) rfl rfl ?_;intro w1 b1 e1 p1 l1 z1;have a0:=p1.c0;have P1:=hid p1;have L1:=hid l1;clear e1 p1 l1 z1;simp only at a0)
  |(refine load_piece (r:=⟨8,no,A,nk,c,0,0⟩) rfl (.tmp 2) rfl rfl P1.out ?_))
 refine(HSZC.out _ _ (HLOW.out.below L1.out)).mono ?_
 rintro e w2 ⟨rfl,l2⟩
 have S0:=hid ((St.start (w0:=w) P1.out L1.out).below l2)
 clear l2 a0
 go_wp2_with fail
 simp only[hwE]
 clear hwE
 go_loopg [5,8] nk (fun gk s5 s8 wr=> ∃(i:Nat) (vo:Value) (Li:List Inst),s5=vo∧s8= .int .i64 i∧Hid (i+gk=nk)∧Hid ((i≤n→Li=pre (ks.take i) a E)∧(i=nk→Li=alts ks a E))∧Hid (St w wr b1 ⟨8,no,A,nk,c,0,0⟩ vo Li))
 case atStart=>exact⟨0,.slice none 0 0,[],rfl,rfl,by unfold Hid;omega,⟨fun _=>by simp only[List.take_zero,pre],fun q=>by have:=HNN.out;omega⟩,S0⟩
 case round=>
  obtain⟨i,vo,Li,rfl,rfl,hig,HLi,SS⟩:=hrel
  have a2:=SS.out.box.c2
  simp only at a2
  have hn1:=HR.out.1
  have hn2:=HR.out.2
  by_cases hi:i<nk
  ·have ti:(i:Int)<(nk:Int):=by omega
   have hik:i<ks.length:=by rw[HNK.out];exact hi
   obtain⟨p,hp⟩: ∃p,ks[i]'hik=p:=⟨_,rfl⟩
   have hpm:p∈ks:=by rw[←hp];exact List.getElem_mem hik
   obtain⟨g1,o1,rk,rfl,hg1,q0,C0⟩:=kid_at K0.out hik hp
   have HG1:=hid hg1
   have Q0:=hid q0
   have C0:=hid C0
   have hin:i≤n:=by have:=HNN.out;omega
   have hLi:=HLi.out.1 hin
   obtain⟨s,hsz⟩: ∃s,size p=s:=⟨_,rfl⟩
   obtain⟨T,hT⟩: ∃T,ks.take i=T:=⟨_,rfl⟩
   have hTm: ∀q,q∈T→q∈ks:=fun q hq=>by rw[←hT]at hq;exact List.mem_of_mem_take hq
   have htk:ks.take (i+1)=T++ [p]:=by rw[List.take_succ_eq_append_getElem hik,hT,hp]
   obtain⟨N,hN⟩: ∃N,plen T=N:=⟨_,rfl⟩
   have hlen:Li.length=N:=by rw[hLi,hT,pre_len HS.out E _ _ hTm,hN]
   obtain⟨hh,hhh⟩: ∃hh,a+N=hh:=⟨_,rfl⟩
   have hbd:N+s+2*(nk-(i+1))≤Sz:=by
    have h1:=sizes_take_le ks (i+1)
    rw[htk,M14.sizes_append]at h1
    have h2:sizes [p]=s:=by simp only[sizes,Nat.add_zero];exact hsz
    have h3:T.length=i:=by rw[←hT,List.length_take];omega
    have h4:=HSU.out
    have h5:=HNN.out
    rw[h2]at h1
    unfold plen at hN
    rw[h3]at hN
    generalize sizes T=q1 at*
    generalize sizes ks=q2 at*
    clear hLi hlen htk hTm hT
    omega
   have HB:=hid hbd
   have HLN:=hid hlen
   have HPS:Hid (∀a,(steps p a).length=s):=by unfold Hid;rw[←hsz];exact HS.out p hpm
   have HSC:=hid (fun w r hl=>size_of (HGK.out p hpm) w r hl)
   rw[hsz]at HSC
   have HIP:Hid (∀(w:World) (a':Nat),PLow w rk p→a'+s≤8000→Calls Tryz.prog 34 #[.agg (rawA rk),.int .i64 a'] w (Gets w (steps p a'))):=by
    intro w a' h1 h2
    have h3:=HI.out i hik w rk a'
    rw[hp,hsz]at h3
    exact h3 h1 (by have:=HB.out;have:=HSUM.out.2.1;clear htk hLi hT;omega) h2
   have HLI:Hid (Li=pre T a E):=by unfold Hid;rw[hLi,hT]
   have HTK:=hid htk
   have HPN:=hid hN
   have HSIZ:=hid hsz
   have HHH:=hid hhh
   have hw1:=wrap_sum hhh (by have:=HB.out;have:=HSUM.out;clear htk hLi hT;omega)
   obtain⟨j,hj⟩: ∃j,i+1=j:=⟨_,rfl⟩
   have hwj:=wrap_one hj (by have:=HR.out;clear htk hLi hT;omega)
   have HJ:=hid hj
   have HJI:Hid ((i:Int)+1=(j:Int)):=by unfold Hid;rw[←hj];rfl
   have HIK:=hid hik
   obtain⟨Ao,co,rfl,hco1,hco2⟩:=SS.out.form
   rw[hlen]at hco1 SS ⊢
   have E0:=hid (cells_on C0.out HG1.out SS.out.low)
   clear hLi hT hTm htk hN hlen hbd hsz hp hpm hg1 q0 hin hhh hj hi hik
   go_wp2_with (first|(refine load_at rfl (.tmp 92) rfl rfl (r:=rk) E0.out ?_))
   refine(HSC.out _ _ (Q0.out.below SS.out.low)).mono ?_
   rintro e w3 ⟨rfl,l3⟩
   have S3:=hid (SS.out.below l3)
   clear l3 a2 hw1
   have a2:=S3.out.box.c2
   simp only at a2
   by_cases hlast:j<nk
   ·have tj:(j:Int)<(nk:Int):=by clear hwj;omega
    have tj2:(i:Int)+1<(nk:Int):=by have:=HJ.out;clear hwj;omega
    obtain⟨x1,hx1⟩: ∃x1,hh+1=x1:=⟨_,rfl⟩
    obtain⟨y0,hy0⟩: ∃y0,hh+s=y0:=⟨_,rfl⟩
    obtain⟨y1,hy1⟩: ∃y1,y0+2=y1:=⟨_,rfl⟩
    have HBB:Hid (hh+s+2≤8000):=by unfold Hid;have:=HB.out;have:=HSUM.out;have:=HHH.out;have:=HJ.out;clear ti tj hwj;omega
    have HXY:=hid (show x1=hh+1∧y1=hh+s+2 from⟨hx1.symm,by clear hwj;omega⟩)
    have HBX:=hid (show x1≤8000∧y0≤8000∧y1≤8000 from by have:=HBB.out;clear hwj;exact⟨by omega,by omega,by omega⟩)
    have hwx:=wrap_one hx1 (Nat.le_trans HBX.out.1 (by decide))
    have hwy:=wrap_sum hy0 (Nat.le_trans HBX.out.2.1 (by decide))
    have hwz:=wrap_two hy1 (Nat.le_trans HBX.out.2.2 (by decide))
    have HIPX:=hid (HIP.out)
    have e3:=hid (cells_on C0.out HG1.out S3.out.low)
    have HL1:Hid (Li.length+ [(⟨6,⟨#[]⟩,(x1:Nat),(y1:Nat)⟩:Inst)].length≤1000000):=by unfold Hid;rw[HLN.out];simp only[List.length_cons,List.length_nil];have:=HB.out;have:=HSUM.out;clear hwx hwy hwz hwj;omega
    clear hx1 hy0 hy1 hlast
    go_wp2_with (first
     |(refine slice_ins (r:=⟨6,⟨#[]⟩,(x1:Nat),(y1:Nat)⟩) rfl (.tmp 108) rfl rfl ?_;intro w4 b4 e4 p4 l4 z4 o4;have R4:=hid p4;have S4:=hid (S3.out.below l4);clear e4 p4 l4 z4 o4)
     |(refine append_ins rfl (.tmp 101) (.tmp 109) rfl rfl rfl S4.out.own R4.out HL1.out S4.out.low.size ?_;intro v5 w5 o5 p5;have S5:=hid (S4.out.put o5 p5);clear o5 p5;clear a2;have a2:=S5.out.box.c2;simp only at a2;have e5:=hid (cells_on C0.out HG1.out S5.out.low))
     |(refine load_at rfl (.tmp 115) rfl rfl (r:=rk) e5.out ?_))
    refine(HIPX.out _ x1 (Q0.out.below S5.out.low) (by have:=HBB.out;have:=HXY.out;clear hwx hwy hwz hwj;omega)).mono ?_
    rintro e w6 ⟨v6,rfl,o6,l6⟩
    have S6:=hid (S5.out.below l6)
    have R6:=hid (Recs.of_own insC_len rfl o6)
    have HL2:Hid ((Li++ [(⟨6,⟨#[]⟩,(x1:Nat),(y1:Nat)⟩:Inst)]).length+(steps p x1).length≤1000000):=by unfold Hid;rw[List.length_append,HLN.out,HPS.out];simp only[List.length_cons,List.length_nil];have:=HB.out;have:=HSUM.out;clear hwx hwy hwz hwj;omega
    have HL3:Hid ((Li++ [(⟨6,⟨#[]⟩,(x1:Nat),(y1:Nat)⟩:Inst)]++steps p x1).length+ [(⟨8,⟨#[]⟩,(E:Nat),0⟩:Inst)].length≤1000000):=by unfold Hid;rw[List.length_append,List.length_append,HLN.out,HPS.out];simp only[List.length_cons,List.length_nil];have:=HB.out;have:=HSUM.out;clear hwx hwy hwz hwj;omega
    clear o6 l6 a2 hwx hwy hwz
    go_wp2_with (first
     |(refine append_ins rfl (.tmp 111) (.tmp 119) rfl rfl rfl S6.out.own R6.out HL2.out S6.out.low.size ?_;intro v7 w7 o7 p7;have S7:=hid (S6.out.put o7 p7);clear o7 p7)
     |(refine slice_ins (r:=⟨8,⟨#[]⟩,(E:Nat),0⟩) rfl (.tmp 123) rfl rfl ?_;intro w8 b8 e8 p8 l8 z8 o8;have R8:=hid p8;have S8:=hid (S7.out.below l8);clear e8 p8 l8 z8 o8)
     |(refine append_ins rfl (.tmp 121) (.tmp 124) rfl rfl rfl S8.out.own R8.out HL3.out S8.out.low.size ?_;intro v9 w9 o9 p9;have S9:=hid (S8.out.put o9 p9);clear o9 p9))
    have HREL:Hid ((j≤n→Li++ [(⟨6,⟨#[]⟩,(x1:Nat),(y1:Nat)⟩:Inst)]++steps p x1++ [(⟨8,⟨#[]⟩,(E:Nat),0⟩:Inst)]=pre (ks.take j) a E)∧(j=nk→Li++ [(⟨6,⟨#[]⟩,(x1:Nat),(y1:Nat)⟩:Inst)]++steps p x1++ [(⟨8,⟨#[]⟩,(E:Nat),0⟩:Inst)]=alts ks a E)):=by
     refine⟨fun _=> ?_,fun q=>by clear hwj;omega⟩
     rw[←HJ.out,HTK.out,pre_append,HPN.out,HHH.out,HLI.out,HXY.out.1,HXY.out.2]
     simp only[pre,HSIZ.out,List.append_assoc,List.cons_append,List.nil_append]
     rfl
    cases gk with
    |zero=>exact absurd hig.out (by have:=HIK.out;have:=HNK.out;clear hwj;omega)
    |succ g=>
     go_wp2_with fail
     go_roundg g
     case measure=>omega
     case rel=>exact⟨j,v9,_,rfl,by first|rfl|exact congrArg (Value.int .i64) hwj|exact congrArg (Value.int .i64) HJI.out,by have:=hig.out;have:=HJ.out;clear hwj;unfold Hid;omega,HREL,S9⟩
   ·have tj: ¬(j:Int)<(nk:Int):=by clear hwj;omega
    have tj2: ¬(i:Int)+1<(nk:Int):=by have:=HJ.out;clear hwj;omega
    have hjn:j=nk:=by have:=HIK.out;have:=HNK.out;have:=HJ.out;clear tj hwj;omega
    have HJN:=hid hjn
    have HHB:Hid (hh+s≤8000):=by unfold Hid;have:=HB.out;have:=HSUM.out;have:=HHH.out;clear hwj ti tj;omega
    have e3:=hid (cells_on C0.out HG1.out S3.out.low)
    clear hjn hlast
    go_wp2_with (first
     |(refine load_at rfl (.tmp 130) rfl rfl (r:=rk) e3.out ?_))
    refine(HIP.out _ hh (Q0.out.below S3.out.low) HHB.out).mono ?_
    rintro e w6 ⟨v6,rfl,o6,l6⟩
    have S6:=hid (S3.out.below l6)
    have R6:=hid (Recs.of_own insC_len rfl o6)
    have HL2:Hid (Li.length+(steps p hh).length≤1000000):=by unfold Hid;rw[HLN.out,HPS.out];have:=HB.out;have:=HSUM.out;clear hwj;omega
    clear o6 l6 a2
    go_wp2_with (first
     |(refine append_ins rfl (.tmp 126) (.tmp 133) rfl rfl rfl S6.out.own R6.out HL2.out S6.out.low.size ?_;intro v7 w7 o7 p7;have S7:=hid (S6.out.put o7 p7);clear o7 p7))
    have HREL:Hid ((j≤n→Li++steps p hh=pre (ks.take j) a E)∧(j=nk→Li++steps p hh=alts ks a E)):=by
     refine⟨fun q=>by have:=HNN.out;have:=HJN.out;clear hwj;omega,fun _=> ?_⟩
     have h1:=alts_pre p (ks.take i) a E
     have h2:ks=ks.take i++ [p]:=by
      have h3:ks.take (i+1)=ks:=List.take_of_length_le (by have:=HJN.out;have:=HJ.out;have:=HNK.out;clear hwj;omega)
      have h4:=HTK.out
      rw[h3]at h4
      have h5:ks.take i=(ks.take (i+1)).take i:=by rw[List.take_take];congr 1;omega
      have h6:T.length=i:=by
       have:=congrArg List.length h4
       rw[List.length_append]at this
       simp only[List.length_cons,List.length_nil]at this
       have:=HJN.out;have:=HJ.out;have:=HNK.out;clear hwj;omega
      rw[h5,h3,h4,List.take_append_of_le_length (by omega),List.take_of_length_le (by omega)]
     rw[←h2]at h1
     have h7:ks.take i=T:=by
      have h8:=HTK.out
      have h9:(ks.take (i+1)).take i=ks.take i:=by rw[List.take_take];congr 1;omega
      rw[h8]at h9
      have h6:T.length=i:=by
       have:=congrArg List.length h8
       rw[List.length_append,List.length_take]at this
       simp only[List.length_cons,List.length_nil]at this
       have:=HIK.out;clear hwj;omega
      rw[←h9,List.take_append_of_le_length (by omega),List.take_of_length_le (by omega)]
     rw[h1,h7,HPN.out,HHH.out,HLI.out]
    cases gk with
    |zero=>exact absurd hig.out (by have:=HIK.out;have:=HNK.out;clear hwj;omega)
    |succ g=>
     go_wp2_with fail
     go_roundg g
     case measure=>omega
     case rel=>exact⟨j,v7,_,rfl,by first|rfl|exact congrArg (Value.int .i64) hwj|exact congrArg (Value.int .i64) HJI.out,by have:=hig.out;have:=HJ.out;clear hwj;unfold Hid;omega,HREL,S7⟩
  ·have ti: ¬(i:Int)<(nk:Int):=by omega
   have hie:i=nk:=by have:=hig.out;omega
   have hL:=HLi.out.2 hie
   subst hL
   clear hie hi
   go_wp2_with fail
   go_ret
   exact SS.out.gets
end W15
namespace W16
open Strs Recs Range
open M15 (Inst rightP okI)
open M16 (Text steps put puts go goOn eps ins)
open W15 (insC insA insC_len Prg IBox zeroI zero_ins ins_size insA_one run_load_ins own_type own_block_same)
open W14 (below_new own_same own_form cell_block two_new)
open Row256 (Beside)
open Kit (below_draws on)
theorem build_mark (a b:Int) (w:World):(Instr.build 77 #[(0,.int .i64 a),(1,.int .i64 b)]).run Tryz.prog w= .ok (.agg #[.int .i64 a,.int .i64 b]) w:=by kernel_rfl
section
variable {o:Oper} {a:Act} {w:World} {Q:Exit→Act→World→Prop} {K:Act→World→Prop}
theorem wp_alloc_ins (ho:o.op= .alloc 62)
    (h: ∀w' b,w.heap.size=b→IBox w' b zeroI→Below w.heap.size w w'→w'.heap.size=w.heap.size+1→K (a.put o.dst (.pointer (some ⟨b,0,none⟩))) w'):o.wp Tryz.prog a w K Q:=by
 unfold Oper.wp execOp
 simp only[ho,Instr.alloc,newVar,newRow,zero_ins,Sem.run_bind,Sem.run_pure,Result.andThen_ok]
 exact h _ _ rfl (heap_alloc_new w _) (below_new w _) (World.size_alloc w _)
theorem wp_store_ins (x y:Operand) (ho:o.op= .store 62 x y) {b:Nat} {r old:Inst} (hx:a.eval x= .pointer (some ⟨b,0,none⟩)) (hy:a.eval y= .agg (insA r)) (hr:IBox w b old)
    (h: ∀w',IBox w' b r→Beside b w w'→w'.heap.size=w.heap.size→K (a.put o.dst undef) w'):o.wp Tryz.prog a w K Q:=
 wp_store_row 62 x y ho b (insA r) hx hy 62 (insA old) hr (ins_size r) rfl (insA_one r)
  (h _ (setRow_heap w b _ _ _ _ hr) ⟨rfl,rfl,rfl,by rw[setRow_size];exact Nat.le_refl _,fun k _ e=>setRow_other w b k _ e⟩ (setRow_size _ _ _))
end
theorem seen_below {w w':World} {b4 r gm gl:Nat} {a4 ar am al:Nat} {v1 v2 v3:Value} {x:Inst} (h:w.cell? ⟨b4,a4,none⟩=some v1∧w.cell? ⟨r,ar,none⟩=some v2∧w.cell? ⟨gm,am,none⟩=some v3∧(∀j,j<4→w.cell? ⟨gl,al+j,none⟩=(insC x)[j]?)) (hb:Below w.heap.size w w'):
    w'.cell? ⟨b4,a4,none⟩=some v1∧w'.cell? ⟨r,ar,none⟩=some v2∧w'.cell? ⟨gm,am,none⟩=some v3∧(∀j,j<4→w'.cell? ⟨gl,al+j,none⟩=(insC x)[j]?):=by
 obtain⟨h1,h2,h3,h4⟩:=h
 refine⟨(hb.cell (World.block_lt_of_cell? w _ h1)).trans h1,(hb.cell (World.block_lt_of_cell? w _ h2)).trans h2,(hb.cell (World.block_lt_of_cell? w _ h3)).trans h3,fun j hj=> ?_⟩
 have h5:=h4 j hj
 have h6: ∃u,(insC x)[j]? =some u:=⟨_,List.getElem?_eq_getElem (by rw[insC_len];exact hj)⟩
 obtain⟨u,hu⟩:=h6
 rw[hu]at h5 ⊢
 exact(hb.cell (World.block_lt_of_cell? w _ h5)).trans h5
def RBox (w:World) (b:Nat) (lv:Value) (s:ByteArray):Prop:=w.heap[b]? =some (.cells #[lv,.string s] 69 (0,0))
section
variable {w w':World} {b:Nat} {lv:Value} {s:ByteArray}
theorem RBox.lt (h:RBox w b lv s):b<w.heap.size:=(Array.getElem?_eq_some_iff.1 h).1
theorem RBox.same (h:RBox w b lv s) (hk:w'.heap[b]? =w.heap[b]?):RBox w' b lv s:=hk.trans h
theorem RBox.below (h:RBox w b lv s) (k:Below w.heap.size w w'):RBox w' b lv s:=h.same (k.block b h.lt)
theorem RBox.c0 (h:RBox w b lv s):w.cell? ⟨b,0,none⟩=some lv:=cell_of_row w b 0 _ _ _ h
theorem RBox.c1 (h:RBox w b lv s):w.cell? ⟨b,1,none⟩=some (.string s):=cell_of_row w b 1 _ _ _ h
end
section
variable {ops:Array Oper} {rest:List Oper} {o:Oper} {a:Act} {w:World} {Q:Exit→Act→World→Prop}
theorem box_run (hgd:o.guard=none) (x:Operand) (ho:o.op= .box 69 x) {lv:Value} {s:ByteArray} (hx:a.eval x= .agg #[lv,.string s])
    (h: ∀w' b,w.heap.size=b→RBox w' b lv s→Below w.heap.size w w'→w'.heap.size=w.heap.size+1→wpList Tryz.prog ops Q rest (a.put o.dst (.pointer (some ⟨b,0,none⟩))) w'):wpList Tryz.prog ops Q (o::rest) a w:=
 wpList_plain hgd fun _ hK=>by
  unfold Oper.wp execOp
  simp only[ho,hx,Instr.box,newVar,newRow,Sem.run_bind,Sem.run_pure]
  exact hK _ _ (h _ _ rfl (heap_alloc_new w _) (below_new w _) (World.size_alloc w _))
end
def Fit (n:Nat) (M:List M16.Mark):Prop:=(steps M).Nodup∧ ∀x∈M,x.1<n
theorem Fit.len {n:Nat} {M:List M16.Mark} (h:Fit n M):M.length≤n:=by
 have:=M16.nodup_le n h.1 (fun x hx=>by
  obtain⟨y,hy,rfl⟩:=List.mem_map.1 hx
  exact h.2 y hy)
 simpa [steps]using this
theorem Fit.put {n:Nat} {M:List M16.Mark} {m:M16.Mark} (h:Fit n M) (hm:m.1<n):Fit n (put M m):=
 ⟨M16.put_nodup h.1,fun x hx=>by
  rcases M16.put_mem hx with h1|rfl
  ·exact h.2 x h1
  ·exact hm⟩
theorem go_next {L:List Inst} {n q b f i:Nat} {M:List M16.Mark} {m:M16.Mark} (h:M[i]? =some m):go L n q b (f+1) i M=go L n q b f (i+1) (puts M (eps (ins L m.1) n q) b):=by
 rw[go,h]
theorem go_stop {L:List Inst} {n q b f i:Nat} {M:List M16.Mark} (h:M.length≤i):go L n q b f i M=M:=by
 cases f with
 |zero=>rfl
 |succ f=>rw[go,List.getElem?_eq_none h]
set_option maxHeartbeats 16000000 in
theorem goOn_any {base:Nat} {w:World} {r g:Nat} {v lv:Value} {M:List M16.Mark} {L:List Inst} (hL:Prg base w lv L) (hR:rightP L=true) (hn:L.length≤900000) (h:RowAt base w r v g L.length M) (hK:Fit L.length M) (s:ByteArray) (m:M16.Mark) (hm:m.1<L.length) (q:Nat) (hq:q≤4611686018427387904):
    Calls Tryz.prog 38 #[.agg #[lv,.string s],.pointer (some ⟨r,0,none⟩),.agg (markA m),.int .i64 q] w fun e w'=>e= .returned (.tuple #[])∧ ∃v',RowAt base w' r v' g L.length (goOn L s.size q M m)∧Grew r g v v' w w':=by
 obtain⟨n,hnl⟩: ∃n,L.length=n:=⟨_,rfl⟩
 have HXO:=hid (fun(i:Nat) (hi:i<L.length)=>M16.ins_ok hR hi)
 obtain⟨gl,ol,cl,rfl,hgl,hlc,hlm⟩: ∃gl ol cl,lv= .slice (some ⟨gl,ol,none⟩) n cl∧gl<base∧n≤cl∧cl≤maxLen:=by
  obtain⟨A,cl,rfl,h1,h2⟩:=hL.form
  obtain⟨b,o,-,rfl,hb,-⟩:=hL.flat_ insC_len (by decide) (k:=0) (by omega)
  exact⟨b,o,cl,by rw[hnl],hb,by omega,h2⟩
 have HLC:=hid (fun(w':World) (hb:Below base w w') (k:Nat) (hk:k<n)=>by
  obtain⟨b,o,hl,e,-,hc⟩:=(hL.below hb).flat_ insC_len (by decide) (k:=k) hk
  cases e
  exact(⟨hl,hc⟩: ∃hl:k<L.length,∀j,j<4→w'.cell? ⟨gl,ol+k*4+j,none⟩=(insC L[k])[j]?))
 have HNL:Hid (L.length=n):=hnl
 rw[hnl]at h hK hm ⊢
 have H:=hid h
 have HK:=hid hK
 have HM:=hid hm
 have HN2:Hid (n<1000000):=by unfold Hid;omega
 obtain⟨A0,c0',rfl,hM1,hM2⟩:=h.form
 unfold maxLen at hM2 hlm
 have HLB:=hid (show gl<base∧n≤cl∧cl≤9223372036854775807 from⟨hgl,hlc,hlm⟩)
 have ha0:=h.c0
 have HMC:=hid (show M.length≤c0'∧c0'≤9223372036854775807 from⟨hM1,hM2⟩)
 obtain⟨R,hRR⟩: ∃R,goOn L s.size q M m=R:=⟨_,rfl⟩
 have HR:Hid (go L s.size q m.2 n M.length (put M m)=R):=by unfold Hid;rw[←hRR,goOn,HNL.out]
 rw[hRR]
 clear hL hR hn h hK hm hnl hgl hlc hlm hRR
 go_enter Tryz.func38,Tryz.ntmps38
 go_wp2_with (first
  |(refine box_run (lv:= .slice (some ⟨gl,ol,none⟩) n cl) (s:=s) rfl (.tmp 0) rfl rfl ?_;intro w1 b4 e1 p1 l1 z1;have Q4:=hid p1;have L1:=hid l1;have E4:=hid e1;clear e1 p1 l1 z1)
  |(refine box_mark (r:=m) rfl (.tmp 2) rfl rfl ?_;intro w2 b6 e1 p1 l1 z1;have B60:=hid p1;have L2:=hid (on L1.out l1);have B40:=hid (Q4.out.below l1);have E6:Hid (w.heap.size≤b6):=(by unfold Hid;have:=L1.out.size;omega);have H2:=hid (H.out.below L2.out);have a0:=H2.out.c0;clear e1 p1 l1 z1 ha0)
  |(refine load_mbox (r:=m) rfl (.tmp 6) rfl rfl B60.out ?_))
 have HBX:Hid (∀v1 w',Grew r g (.slice A0 M.length c0') v1 w2 w'→ ¬RF r g v1 b4∧ ¬RF r g v1 b6):=fun v1 w' hg=>by
  have h1:=H.out.lt
  have h2:=H.out.bits.lt
  have h3:=B40.out.lt
  have h4:=B60.out.lt
  have h5:=E4.out
  have h6:=E6.out
  refine⟨?_,?_⟩
  ·rintro(e|e|e)
   ·omega
   ·omega
   ·rcases hg.own b4 e with e2|e2
    ·have:=(H.out.own.lt b4 e2).2;omega
    ·omega
  ·rintro(e|e|e)
   ·omega
   ·omega
   ·rcases hg.own b6 e with e2|e2
    ·have:=(H.out.own.lt b6 e2).2;omega
    ·omega
 refine(put_any H2.out m HM.out (by have:=HK.out.len;have:=HN2.out;omega)).mono ?_
 rintro e w3 ⟨rfl,v3,r3,g3⟩
 have R3:=hid r3
 have F3:=hid (HK.out.put (m:=m) HM.out)
 have B4:=hid (B40.out.same (g3.keeps B40.out.lt (HBX.out _ _ (Grew.refl _ _ _ _)).1))
 have B6:=hid (B60.out.same (g3.keeps B60.out.lt (HBX.out _ _ (Grew.refl _ _ _ _)).2))
 have G3:=hid g3
 clear r3 g3 a0 hM1 hM2
 go_wp2_with fail
 go_loopg [8] n (fun gk s8 wr=> ∃(i:Nat) (v1:Value) (M1:List M16.Mark),s8= .int .i64 i∧Hid (RowAt base wr r v1 g n M1)∧Hid (Grew r g (.slice A0 M.length c0') v1 w2 wr)∧Hid (Fit n M1)∧Hid (RBox wr b4 (.slice (some ⟨gl,ol,none⟩) n cl) s)∧Hid (MBox wr b6 m)∧Hid (go L s.size q m.2 gk i M1=R)∧Hid (n≤i+gk))
 case atStart=>exact⟨M.length,v3,put M m,rfl,R3,G3,F3,B4,B6,HR,by unfold Hid;omega⟩
 case round=>
  clear B4 B6
  obtain⟨i,v1,M1,rfl,R1,G1,HF1,B4,B6,HGO,HLE⟩:=hrel
  by_cases hi:i<M1.length
  ·obtain⟨gm,c1,rfl,-,-,hk1,hk2⟩:=own_form R1.out.own (by omega)
   obtain⟨⟨j0,b0⟩,hx0⟩: ∃x,M1[i]=x:=⟨_,rfl⟩
   have hj0:j0<n:=by have:=HF1.out.2 M1[i] (List.getElem_mem hi);rw[hx0]at this;exact this
   obtain⟨hjl,hcl⟩:=HLC.out wr ((L2.out.mono (Nat.le_trans H.out.low (Nat.le_of_lt H.out.lt))).trans (G1.out.below H2.out)) j0 hj0
   have hii:ins L j0=L[j0]:=by unfold ins;rw[List.getD_eq_getElem?_getD,List.getElem?_eq_getElem hjl];rfl
   rw[←hii]at hcl
   have hmc:wr.cell? ⟨gm,i*2,none⟩=some (.int .i64 j0):=by
    rw[R1.out.own.cellAt _ (by omega)]
    have:=flat_at markC_len M1 i hi 0 (by decide)
    rw[Nat.add_zero]at this
    rw[this,hx0];rfl
   have HMI:Hid (M1[i]? =some (j0,b0)):=by unfold Hid;rw[List.getElem?_eq_getElem hi,hx0]
   obtain⟨⟨k,t,X,Y⟩,hx1⟩: ∃x,ins L j0=x:=⟨_,rfl⟩
   have HX:=hid hx1
   have HOK:Hid (k≠7→0≤X∧X<n∧1≤k∧k≤8∧(k=6→0≤Y∧Y<n)):=by
    have:=HXO.out j0 (by rw[HNL.out];exact hj0)
    rw[hx1,HNL.out]at this
    exact fun hk=>M16.okI_x this hk
   rw[hx1]at hcl
   obtain⟨k1,hk⟩: ∃k1,M1.length=k1:=⟨_,rfl⟩
   have HK1:=hid hk
   have hr0:=R1.out.c0
   rw[hk]at hi hk1 hr0 R1 G1
   unfold maxLen at hk2
   have HI:=hid hi
   have hii1:(i:Int)<(k1:Int):=by omega
   have hjn:(j0:Int)<(n:Int):=by omega
   have hwi:Hid (wrap64 ((i:Int)+1)=((i+1:Nat):Int)):=by unfold Hid wrap64;have:=HF1.out.len;have:=HN2.out;omega
   clear hii hjl hx0 hx1 hk hi
   go_wp2_with fail
   have D1:=hid (below_draws wr 1)
   have S0:Hid ((wr.drewN 1).cell? ⟨b4,0,none⟩=some (.slice (some ⟨gl,ol,none⟩) n cl)∧(wr.drewN 1).cell? ⟨r,0,none⟩=some (.slice (some ⟨gm,0,none⟩) k1 c1)∧(wr.drewN 1).cell? ⟨gm,i*2,none⟩=some (.int .i64 j0)∧(∀j,j<4→(wr.drewN 1).cell? ⟨gl,ol+j0*4+j,none⟩=(insC ⟨k,t,X,Y⟩)[j]?)):=seen_below ⟨B4.out.c0,hr0,hmc,hcl⟩ D1.out
   clear hr0 hmc hcl
   refine wp_region_held_drew (S:=fun w'=>w'.cell? ⟨b4,0,none⟩=some (.slice (some ⟨gl,ol,none⟩) n cl)∧w'.cell? ⟨r,0,none⟩=some (.slice (some ⟨gm,0,none⟩) k1 c1)∧w'.cell? ⟨gm,i*2,none⟩=some (.int .i64 j0)∧(∀j,j<4→w'.cell? ⟨gl,ol+j0*4+j,none⟩=(insC ⟨k,t,X,Y⟩)[j]?)) (by kernel_rfl) S0.out (fun hHeld=> ?_)
   refine Take.k 0 ⟨some 27,.fieldAddr 69 (.tmp 4) 0,_,_,_,none⟩ ?_
   refine Take.k 1 ⟨some 28,.load 32 (.tmp 27),_,_,_,none⟩ ?_
   refine Take.k 2 ⟨some 29,.move (.tmp 1),_,_,_,none⟩ ?_
   refine Take.k 3 ⟨some 30,.nilCheck (.tmp 29),_,_,_,none⟩ ?_
   refine Take.k 4 ⟨some 31,.fieldAddr 74 (.tmp 30) 0,_,_,_,none⟩ ?_
   refine Take.k 5 ⟨some 32,.load 72 (.tmp 31),_,_,_,none⟩ ?_
   refine Take.k 6 ⟨some 33,.move (.tmp 8),_,_,_,none⟩ ?_
   refine Take.k 7 ⟨some 34,.indexAddr 72 (.tmp 32) (.tmp 33),_,_,_,none⟩ ?_
   refine Take.k 8 ⟨some 35,.fieldAddr 77 (.tmp 34) 0,_,_,_,none⟩ ?_
   refine Take.k 9 ⟨some 36,.load 3 (.tmp 35),_,_,_,none⟩ ?_
   refine Take.k 10 ⟨some 37,.indexAddr 32 (.tmp 28) (.tmp 36),_,_,_,none⟩ ?_
   refine Take.k 11 ⟨some 38,.load 62 (.tmp 37),_,_,_,none⟩ ?_ (hy:=Or.inl ⟨by rfl,by(intro w hSw;(try dsimp only at hSw);refine run_load_ins (.tmp 37) ?_ ?_ hSw.2.2.2<;>rfl)⟩)
   refine wpAnyH_ready (rs:= [12]) (by kernel_rfl) (by simp) ?_
   refine AllReadyH.cons (o:=⟨some 9,.alloc 62,_,_,_,none⟩) rfl (fun K hK=> ?_) AllReadyH.nil
   rw[if_pos (by rfl)]
   (refine wp_alloc_ins rfl ?_;intro w6 b9 e6 p6 l6 z6;have P6:=hid p6;have L6:=hid l6;have E6':=hid e6;clear e6 p6 l6 z6)
   refine hK.out _ _ ?_ (fun hHeld=> ?_)
   ·exact seen_below S0.out L6.out
   clear hK K
   try simp only[Act.put,Take.a,Take.b,Take.c]
   refine wpAnyH_ready (rs:= [13]) (by kernel_rfl) (by simp) ?_
   refine AllReadyH.cons (o:=⟨none,.store 62 (.tmp 9) (.tmp 38),_,_,_,none⟩) rfl (fun K hK=> ?_) AllReadyH.nil
   rw[if_pos (by rfl)]
   (refine wp_store_ins (r:=⟨k,t,X,Y⟩) (.tmp 9) (.tmp 38) rfl rfl rfl P6.out ?_;intro w7 p7 l7 z7;have P7:=hid p7;have L7:=hid (two_new L6.out l7 E6'.out);clear p7 l7 z7)
   refine hK.out _ _ ?_ (fun hHeld=> ?_)
   ·exact seen_below S0.out L7.out
   clear hK K
   refine wpAnyH_done (by kernel_rfl) ?_ _
   have R5:=hid (R1.out.below (on D1.out L7.out))
   have G5:=hid (G1.out.trans (Grew.of (on D1.out L7.out)))
   have B45:=hid (B4.out.below (on D1.out L7.out))
   have B65:=hid (B6.out.below (on D1.out L7.out))
   have B9:=P7
   have NB9:Hid (¬RF r g (.slice (some ⟨gm,0,none⟩) k1 c1) b9):=by unfold Hid;intro e;have h1:=(R1.out.in_ e).2;have h2:wr.heap.size=b9:=E6'.out;omega
   clear P7 P6 R1 G1 S0 B4 B6 D1 L7 L6
   generalize w7=w5 at*
   by_cases k6:k=6
   ·subst k6
    have hx:=HOK.out (by decide)
    try simp only at hx
    obtain⟨jx,rfl⟩: ∃jx:Nat,X=(jx:Int):=⟨X.toNat,by have:=hx.1;omega⟩
    have HJX:Hid (jx<n):=by unfold Hid;have:=hx.2.1;omega
    obtain⟨jy,rfl⟩: ∃jy:Nat,Y=(jy:Int):=⟨Y.toNat,by have:=hx.2.2.2.2 trivial;omega⟩
    have HJY:Hid (jy<n):=by unfold Hid;have:=hx.2.2.2.2 trivial;omega
    have HEP:Hid (eps (ins L j0) s.size q= [jx,jy]):=by unfold Hid;rw[HX.out];simp[eps]
    clear hx
    have c0:=B9.out.c0
    have c2:=B9.out.c2
    have c3:=B9.out.c3
    have d1:=B65.out.c1
    have e1:=B45.out.c1
    simp only at c0 c2 c3
    go_wp2_with fail
    refine(put_any R5.out (jx,m.2) HJX.out (by have:=HF1.out.len;have:=HN2.out;omega)).mono ?_
    rintro e w6 ⟨rfl,v6,r6,g6⟩
    have R6:=hid r6
    have B46:=hid (B45.out.same (g6.keeps B45.out.lt (HBX.out _ _ G5.out).1))
    have B66:=hid (B65.out.same (g6.keeps B65.out.lt (HBX.out _ _ G5.out).2))
    have B9:Hid (IBox w6 b9 ⟨6,t,jx,jy⟩):=(g6.keeps B9.out.lt NB9.out).trans B9.out
    have c3:=B9.out.c3
    have d1:=B66.out.c1
    simp only at c3
    have G6:=hid (G5.out.trans g6)
    have F6:=hid (HF1.out.put (m:=(jx,m.2)) HJX.out)
    clear r6 g6
    go_wp2_with fail
    refine(put_any R6.out (jy,m.2) HJY.out (by have:=F6.out.len;have:=HN2.out;omega)).mono ?_
    rintro e w7 ⟨rfl,v7,r7,g7⟩
    have R7:=hid r7
    have B47:=hid (B46.out.same (g7.keeps B46.out.lt (HBX.out _ _ G6.out).1))
    have B67:=hid (B66.out.same (g7.keeps B66.out.lt (HBX.out _ _ G6.out).2))
    have G7:=hid (G6.out.trans g7)
    have F7:=hid (F6.out.put (m:=(jy,m.2)) HJY.out)
    clear r7 g7
    cases gk with
    |zero=>exact absurd HLE.out (by have:=HF1.out.len;have:=HI.out;omega)
    |succ gk=>
     go_wp2_with fail
     go_roundg gk
     case measure=>omega
     case rel=>
      refine⟨i+1,_,_,by first|rfl|exact congrArg (Value.int .i64) hwi.out,R7,G7,F7,B47,B67,?_,by have:=HLE.out;unfold Hid;omega⟩
      unfold Hid
      rw[←HGO.out,go_next HMI.out,HEP.out]
      rfl
   ·by_cases k8:k=8
    ·subst k8
     have hx:=HOK.out (by decide)
     try simp only at hx
     obtain⟨jx,rfl⟩: ∃jx:Nat,X=(jx:Int):=⟨X.toNat,by have:=hx.1;omega⟩
     have HJX:Hid (jx<n):=by unfold Hid;have:=hx.2.1;omega
     have HEP:Hid (eps (ins L j0) s.size q= [jx]):=by unfold Hid;rw[HX.out];simp[eps]
     clear hx
     have c0:=B9.out.c0
     have c2:=B9.out.c2
     have c3:=B9.out.c3
     have d1:=B65.out.c1
     have e1:=B45.out.c1
     simp only at c0 c2 c3
     go_wp2_with fail
     refine(put_any R5.out (jx,m.2) HJX.out (by have:=HF1.out.len;have:=HN2.out;omega)).mono ?_
     rintro e w6 ⟨rfl,v6,r6,g6⟩
     have R6:=hid r6
     have B46:=hid (B45.out.same (g6.keeps B45.out.lt (HBX.out _ _ G5.out).1))
     have B66:=hid (B65.out.same (g6.keeps B65.out.lt (HBX.out _ _ G5.out).2))
     have G6:=hid (G5.out.trans g6)
     have F6:=hid (HF1.out.put (m:=(jx,m.2)) HJX.out)
     clear r6 g6
     cases gk with
     |zero=>exact absurd HLE.out (by have:=HF1.out.len;have:=HI.out;omega)
     |succ gk=>
      go_wp2_with fail
      go_roundg gk
      case measure=>omega
      case rel=>
       refine⟨i+1,_,_,by first|rfl|exact congrArg (Value.int .i64) hwi.out,R6,G6,F6,B46,B66,?_,by have:=HLE.out;unfold Hid;omega⟩
       unfold Hid
       rw[←HGO.out,go_next HMI.out,HEP.out]
       rfl
    ·by_cases k4:k=4
     ·by_cases q0:q=0
      ·subst k4
       subst q0
       have hx:=HOK.out (by decide)
       try simp only at hx
       obtain⟨jx,rfl⟩: ∃jx:Nat,X=(jx:Int):=⟨X.toNat,by have:=hx.1;omega⟩
       have HJX:Hid (jx<n):=by unfold Hid;have:=hx.2.1;omega
       have HEP:Hid (eps (ins L j0) s.size 0= [jx]):=by unfold Hid;rw[HX.out];simp[eps]
       clear hx
       have c0:=B9.out.c0
       have c2:=B9.out.c2
       have c3:=B9.out.c3
       have d1:=B65.out.c1
       have e1:=B45.out.c1
       simp only at c0 c2 c3
       go_wp2_with fail
       refine(put_any R5.out (jx,m.2) HJX.out (by have:=HF1.out.len;have:=HN2.out;omega)).mono ?_
       rintro e w6 ⟨rfl,v6,r6,g6⟩
       have R6:=hid r6
       have B46:=hid (B45.out.same (g6.keeps B45.out.lt (HBX.out _ _ G5.out).1))
       have B66:=hid (B65.out.same (g6.keeps B65.out.lt (HBX.out _ _ G5.out).2))
       have G6:=hid (G5.out.trans g6)
       have F6:=hid (HF1.out.put (m:=(jx,m.2)) HJX.out)
       clear r6 g6
       cases gk with
       |zero=>exact absurd HLE.out (by have:=HF1.out.len;have:=HI.out;omega)
       |succ gk=>
        go_wp2_with fail
        go_roundg gk
        case measure=>omega
        case rel=>
         refine⟨i+1,_,_,by first|rfl|exact congrArg (Value.int .i64) hwi.out,R6,G6,F6,B46,B66,?_,by have:=HLE.out;unfold Hid;omega⟩
         unfold Hid
         rw[←HGO.out,go_next HMI.out,HEP.out]
         rfl
      ·subst k4
       have tq:((q:Int)==0)=false:=by simp;omega
       have HEP:Hid (eps (ins L j0) s.size q= []):=by unfold Hid;rw[HX.out];simp[eps,q0]
       clear q0
       have c0:=B9.out.c0
       have c2:=B9.out.c2
       have c3:=B9.out.c3
       have d1:=B65.out.c1
       have e1:=B45.out.c1
       simp only at c0 c2 c3
       cases gk with
       |zero=>exact absurd HLE.out (by have:=HF1.out.len;have:=HI.out;omega)
       |succ gk=>
        go_wp2_with fail
        go_roundg gk
        case measure=>omega
        case rel=>
         refine⟨i+1,_,_,by first|rfl|exact congrArg (Value.int .i64) hwi.out,R5,G5,HF1,B45,B65,?_,by have:=HLE.out;unfold Hid;omega⟩
         unfold Hid
         rw[←HGO.out,go_next HMI.out,HEP.out]
         rfl
     ·by_cases k5:k=5
      ·by_cases q0:q=s.size
       ·subst k5
        have tq:((q:Int)==(s.size:Int))=true:=by simp;omega
        have hx:=HOK.out (by decide)
        try simp only at hx
        obtain⟨jx,rfl⟩: ∃jx:Nat,X=(jx:Int):=⟨X.toNat,by have:=hx.1;omega⟩
        have HJX:Hid (jx<n):=by unfold Hid;have:=hx.2.1;omega
        have HEP:Hid (eps (ins L j0) s.size q= [jx]):=by unfold Hid;rw[HX.out];simp[eps,q0]
        clear hx q0
        have c0:=B9.out.c0
        have c2:=B9.out.c2
        have c3:=B9.out.c3
        have d1:=B65.out.c1
        have e1:=B45.out.c1
        simp only at c0 c2 c3
        go_wp2_with fail
        refine(put_any R5.out (jx,m.2) HJX.out (by have:=HF1.out.len;have:=HN2.out;omega)).mono ?_
        rintro e w6 ⟨rfl,v6,r6,g6⟩
        have R6:=hid r6
        have B46:=hid (B45.out.same (g6.keeps B45.out.lt (HBX.out _ _ G5.out).1))
        have B66:=hid (B65.out.same (g6.keeps B65.out.lt (HBX.out _ _ G5.out).2))
        have G6:=hid (G5.out.trans g6)
        have F6:=hid (HF1.out.put (m:=(jx,m.2)) HJX.out)
        clear r6 g6
        cases gk with
        |zero=>exact absurd HLE.out (by have:=HF1.out.len;have:=HI.out;omega)
        |succ gk=>
         go_wp2_with fail
         go_roundg gk
         case measure=>omega
         case rel=>
          refine⟨i+1,_,_,by first|rfl|exact congrArg (Value.int .i64) hwi.out,R6,G6,F6,B46,B66,?_,by have:=HLE.out;unfold Hid;omega⟩
          unfold Hid
          rw[←HGO.out,go_next HMI.out,HEP.out]
          rfl
       ·subst k5
        have tq:((q:Int)==(s.size:Int))=false:=by simp;omega
        have HEP:Hid (eps (ins L j0) s.size q= []):=by unfold Hid;rw[HX.out];simp[eps,q0]
        clear q0
        have c0:=B9.out.c0
        have c2:=B9.out.c2
        have c3:=B9.out.c3
        have d1:=B65.out.c1
        have e1:=B45.out.c1
        simp only at c0 c2 c3
        cases gk with
        |zero=>exact absurd HLE.out (by have:=HF1.out.len;have:=HI.out;omega)
        |succ gk=>
         go_wp2_with fail
         go_roundg gk
         case measure=>omega
         case rel=>
          refine⟨i+1,_,_,by first|rfl|exact congrArg (Value.int .i64) hwi.out,R5,G5,HF1,B45,B65,?_,by have:=HLE.out;unfold Hid;omega⟩
          unfold Hid
          rw[←HGO.out,go_next HMI.out,HEP.out]
          rfl
      ·have t6:(k==6)=false:=by simpa using k6
       have t8:(k==8)=false:=by simpa using k8
       have t4:(k==4)=false:=by simpa using k4
       have t5:(k==5)=false:=by simpa using k5
       have HEP:Hid (eps (ins L j0) s.size q= []):=by unfold Hid;rw[HX.out];simp[eps,k6,k8,k4,k5]
       clear k6 k8 k4 k5
       have c0:=B9.out.c0
       have c2:=B9.out.c2
       have c3:=B9.out.c3
       have d1:=B65.out.c1
       have e1:=B45.out.c1
       simp only at c0 c2 c3
       cases gk with
       |zero=>exact absurd HLE.out (by have:=HF1.out.len;have:=HI.out;omega)
       |succ gk=>
        go_wp2_with fail
        go_roundg gk
        case measure=>omega
        case rel=>
         refine⟨i+1,_,_,by first|rfl|exact congrArg (Value.int .i64) hwi.out,R5,G5,HF1,B45,B65,?_,by have:=HLE.out;unfold Hid;omega⟩
         unfold Hid
         rw[←HGO.out,go_next HMI.out,HEP.out]
         rfl
  ·have ti: ¬(i:Int)<(M1.length:Int):=by omega
   obtain⟨A1,c1,rfl,hk1,hk2⟩:=R1.out.form
   unfold maxLen at hk2
   have hr0:=R1.out.c0
   have HE:Hid (M1=R):=by unfold Hid;rw[←HGO.out,go_stop (by omega)]
   obtain⟨k1,hk⟩: ∃k1,M1.length=k1:=⟨_,rfl⟩
   rw[hk]at hk1 hr0 R1 G1 ti
   clear hi hk
   go_wp2_with fail
   go_end0
   rw[←HE.out]
   exact⟨rfl,_,R1.out,(Grew.of L2.out).trans G1.out⟩
end W16
namespace M16
open Go M15
def nexts (x:Inst) (s:Text) (q:Nat):List Mark:=(eps x s.length q).map (fun j=>(j,q))++(match s[q]? with
 |some c=>if takes x c then[(x.x.toNat,q+1)]else[]
 |none=> [])
theorem mem_nexts {L:List Inst} {s:Text} {i q:Nat} {p:Mark}:p∈nexts (ins L i) s q↔Nxt L s i q p.1 p.2:=by
 obtain⟨j,v⟩:=p
 unfold nexts Nxt
 rw[List.mem_append,List.mem_map]
 constructor
 ·rintro(⟨j',h1,h2⟩|h)
  ·cases h2;exact Or.inl ⟨h1,rfl⟩
  ·cases hc:s[q]? with
   |none=>rw[hc]at h;simp at h
   |some c=>
    rw[hc]at h
    simp only at h
    by_cases ht:takes (ins L i) c=true
    ·rw[if_pos ht]at h
     simp at h
     exact Or.inr ⟨c,rfl,ht,h.1,h.2⟩
    ·rw[if_neg ht]at h;simp at h
 ·rintro(⟨h1,h2⟩|⟨c,hc,ht,h1,h2⟩)
  ·exact Or.inl ⟨j,h1,by simp only at h2;rw[h2]⟩
  ·right
   rw[hc]
   simp only at h1 h2 ⊢
   rw[if_pos ht,h1,h2]
   simp
def flat2 (l:List Mark):List Nat:=l.flatMap fun p=> [p.1,p.2]
end M16
namespace W16
open Strs Recs
open M15 (Inst okI)
open M16 (Text nexts flat2 eps takes)
open W15 (insC insA IBox box_ins numC numC_len numC_one)
open W14 (below_new)
open Kit (below_draws on byte_test)
abbrev Nums (B:Nat) (w:World) (v:Value) (l:List Nat):Prop:=Recs numC 1 B w v l
theorem nums_at {B n c:Nat} {w:World} {A:Option Addr} {l:List Nat} (h:Nums B w (.slice A n c) l) {k:Nat} (hk:k<n): ∃(b o:Nat) (hl:k<l.length),A=some ⟨b,o,none⟩∧w.cell? ⟨b,o+k,none⟩=some (.int .i64 l[k]):=by
 obtain⟨b,o,hl,e,-,hc⟩:=h.flat_ numC_len (by decide) hk
 refine⟨b,o,hl,e,?_⟩
 have:=hc 0 (by decide)
 rw[Nat.mul_one,Nat.add_zero]at this
 rw[this];rfl
theorem ints_any {B B':Nat} {w:World} {u v:Value} {X Y:List Nat} (hx:Nums B w u X) (hy:Nums B' w v Y):Calls Tryz.prog 16 #[u,v] w fun e w'=>e= .returned (.bool (decide (X=Y)))∧Below w.heap.size w w':=by
 obtain⟨A,c,rfl,h1,h2⟩:=hx.form
 obtain⟨A',c',rfl,h3,h4⟩:=hy.form
 have HX:=hid hx
 have HY:=hid hy
 obtain⟨n,hn⟩: ∃n,X.length=n:=⟨_,rfl⟩
 obtain⟨m,hm⟩: ∃m,Y.length=m:=⟨_,rfl⟩
 have HNX:=hid hn
 have HNY:=hid hm
 rw[hn]at HX h1 ⊢
 rw[hm]at HY h3 ⊢
 unfold maxLen at h2 h4
 clear hx hy hn hm
 by_cases hnm:n=m
 ·subst hnm
  have te:((n:Int) !=(n:Int))=false:=by simp
  obtain⟨R,hR⟩: ∃R,decide (X=Y)=R:=⟨_,rfl⟩
  have HR:=hid hR
  rw[hR]
  have HC:=hid (show n≤c∧c≤9223372036854775807∧n≤c'∧c'≤9223372036854775807 from⟨h1,h2,h3,h4⟩)
  clear hR h1 h2 h3 h4
  go_enter Tryz.func16,Tryz.ntmps16
  go_wp2_with fail
  go_loopg [5] n (fun gk s5 wr=> ∃i:Nat,s5= .int .i64 i∧Hid (i+gk=n)∧Hid (Below w.heap.size w wr)∧Hid (∀(k:Nat) (h1:k<X.length) (h2:k<Y.length),k<i→X[k]=Y[k])∧Hid (Nums B wr (.slice A n c) X)∧Hid (Nums B' wr (.slice A' n c') Y))
  case atStart=>exact⟨0,rfl,by unfold Hid;omega,Below.refl _ _,fun k _ _ h=>absurd h (Nat.not_lt_zero _),HX,HY⟩
  case round=>
   clear HX HY
   obtain⟨i,rfl,hig,LB,HS,HX,HY⟩:=hrel
   cases gk with
   |zero=>
    have hi:i=n:=by have:=hig.out;omega
    subst hi
    have ti: ¬(i:Int)<(i:Int):=by omega
    go_wp2_with fail
    go_ret
    have hxy:X=Y:=List.ext_getElem (by rw[HNX.out,HNY.out]) fun k h1 h2=>HS.out k h1 h2 (by rw[HNX.out]at h1;exact h1)
    exact⟨congrArg (fun b=>Ending.returned (.bool b)) (by rw[←HR.out,decide_eq_true hxy]),LB.out⟩
   |succ gk=>
    have hi:i<n:=by have:=hig.out;omega
    have ti:(i:Int)<(n:Int):=by omega
    obtain⟨b1,o1,k1,rfl,e1⟩:=nums_at HX.out hi
    obtain⟨b2,o2,k2,rfl,e2⟩:=nums_at HY.out hi
    have hwi:Hid (wrap64 ((i:Int)+1)=((i+1:Nat):Int)):=by unfold Hid wrap64;have:=HC.out;omega
    obtain⟨x,hxv⟩: ∃x,X[i]=x:=⟨_,rfl⟩
    obtain⟨y,hyv⟩: ∃y,Y[i]=y:=⟨_,rfl⟩
    rw[hxv]at e1
    rw[hyv]at e2
    by_cases hxy:x=y
    ·subst hxy
     have tx:((x:Int) !=(x:Int))=false:=by simp
     have HS2:Hid (∀(k:Nat) (h1:k<X.length) (h2:k<Y.length),k<i+1→X[k]=Y[k]):=fun k h1 h2 hk=>by
      by_cases e:k=i
      ·subst e;rw[hxv,hyv]
      ·exact HS.out k h1 h2 (by omega)
     clear hxv hyv
     go_wp2_with fail
     go_quiet (fail)
     go_wp2_with fail
     go_roundg gk
     case measure=>omega
     case rel=>exact⟨i+1,by first|rfl|exact congrArg (Value.int .i64) hwi.out,by unfold Hid;have:=hig.out;omega,on LB.out (below_draws wr _),HS2,HX,HY⟩
    ·have tx:((x:Int) !=(y:Int))=true:=by simp;omega
     have hne:X≠Y:=fun e=>by
      subst e
      exact hxy (by rw[←hxv,←hyv])
     have HNE:=hid hne
     clear hxv hyv hne
     go_wp2_with fail
     go_quiet (fail)
     go_wp2_with fail
     go_ret
     exact⟨congrArg (fun b=>Ending.returned (.bool b)) (by rw[←HR.out,decide_eq_false HNE.out]),on LB.out (below_draws wr _)⟩
 ·have te:((n:Int) !=(m:Int))=true:=by simp;omega
  have hne:decide (X=Y)=false:=decide_eq_false fun e=>by
   subst e
   exact hnm (by rw[←HNX.out,HNY.out])
  rw[hne]
  clear hne
  go_enter Tryz.func16,Tryz.ntmps16
  go_wp2_with fail
  go_ret
  exact⟨rfl,Below.refl _ _⟩
def GivesInts (w:World) (ys:List Nat) (e:Ending) (w':World):Prop:= ∃v,e= .returned v∧w'.ownsRow w.heap.size 3 1 v ys.length (ys.flatMap numC)∧Below w.heap.size w w'
theorem own_ints {base:Nat} (w:World) (l:List Nat) (hb:base≤w.heap.size) (hl:l.length≤maxLen):(w.alloc (.cells (l.flatMap numC).toArray 3)).ownsRow base 3 1 (.slice (some ⟨w.heap.size,0,none⟩) l.length l.length) l.length (l.flatMap numC):=by
 have hlen:(l.flatMap numC).length=l.length*1:=flat_len numC_len l
 refine⟨hlen,Or.inr ⟨w.heap.size,l.length,_,rfl,hb,heap_alloc_new w _,Nat.le_refl _,hl,by rw[List.size_toArray,hlen],?_⟩⟩
 rw[←hlen]
 exact List.take_length
section
variable {s:ByteArray} {q:Nat} {w:World}
theorem gives_2 {w1:World} (h:Below w.heap.size w w1) (a b:Nat):GivesInts w [a,b] (.returned (.slice (some ⟨w1.heap.size,0,none⟩) 2 2)) (w1.alloc (.cells #[.int .i64 a,.int .i64 b] 3)):=
 ⟨_,rfl,own_ints w1 [a,b] h.size (by unfold maxLen;simp),on h (below_new w1 _)⟩
theorem next_end (t:ByteArray) (jx:Nat) (Y:Int) (hq:q=s.size):Calls Tryz.prog 28 #[.agg (insA ⟨5,t,(jx:Nat),Y⟩),.string s,.int .i64 q] w (GivesInts w [jx,q]):=by
 unfold GivesInts
 have tq:((q:Int)==(s.size:Int))=true:=by simp;omega
 clear hq
 go_enter Tryz.func28,Tryz.ntmps28
 go_wp2_with (first|(refine box_ins (r:=⟨5,t,(jx:Nat),Y⟩) rfl (.tmp 0) rfl rfl ?_;intro w1 b3 e1 p1 l1 z1;have c0:=p1.c0;have c1:=p1.c1;have c2:=p1.c2;have c3:=p1.c3;have P1:=hid p1;have L1:=hid l1;clear e1 p1 l1 z1;simp only at c0 c1 c2 c3))
 go_ret
 exact gives_2 L1.out jx q
theorem next_any (t:ByteArray) (jx:Nat) (Y:Int) (hq:q<s.size) (hm:s.size≤4611686018427387904) (hc:((s[q].toNat:Int) !=10)=true):Calls Tryz.prog 28 #[.agg (insA ⟨2,t,(jx:Nat),Y⟩),.string s,.int .i64 q] w (GivesInts w [jx,q+1]):=by
 unfold GivesInts
 have tq:((q:Int)==(s.size:Int))=false:=by simp;omega
 have hqs:(q:Int)<(s.size:Int):=by omega
 obtain⟨q1,hq1⟩: ∃q1,q+1=q1:=⟨_,rfl⟩
 have hw:wrap64 ((q:Int)+1)=(q1:Int):=by unfold wrap64;omega
 rw[hq1]
 clear hq1 hm
 go_enter Tryz.func28,Tryz.ntmps28
 go_wp2_with (first|(refine box_ins (r:=⟨2,t,(jx:Nat),Y⟩) rfl (.tmp 0) rfl rfl ?_;intro w1 b3 e1 p1 l1 z1;have c0:=p1.c0;have c1:=p1.c1;have c2:=p1.c2;have c3:=p1.c3;have P1:=hid p1;have L1:=hid l1;clear e1 p1 l1 z1;simp only at c0 c1 c2 c3))
 have S0:Hid ((w1.drewN 1).cell? ⟨b3,0,none⟩=some (.int .i64 2)∧(w1.drewN 1).cell? ⟨b3,1,none⟩=some (.string t)):=⟨c0,c1⟩
 have L2:=hid (on L1.out (below_draws w1 1))
 have c2':w1.drew.cell? ⟨b3,2,none⟩=some (.int .i64 (jx:Nat)):=c2
 clear c0 c1 c2 c3
 refine wp_region_held_drew (S:=fun w'=>w'.cell? ⟨b3,0,none⟩=some (.int .i64 2)∧w'.cell? ⟨b3,1,none⟩=some (.string t)) (by kernel_rfl) S0.out (fun hHeld=> ?_)
 refine Take.k 0 ⟨some 48,.fieldAddr 62 (.tmp 3) 0,_,_,_,none⟩ ?_
 refine Take.k 1 ⟨some 49,.load 3 (.tmp 48),_,_,_,none⟩ ?_
 refine Take.k 2 ⟨some 50,.binOp .eql 3 (.tmp 49) (.const (.int .i64 1)) 3,_,_,_,none⟩ ?_
 refine Take.k 3 ⟨some 51,.move (.tmp 50),_,_,_,none⟩ ?_
 refine Take.u 4 ⟨some 52,.fieldAddr 62 (.tmp 3) 1,_,_,_,some (3,true)⟩ ?_
 refine Take.u 5 ⟨some 53,.load 9 (.tmp 52),_,_,_,some (3,true)⟩ ?_
 refine Take.u 6 ⟨some 54,.index 9 (.tmp 53) (.const (.int .i64 0)),_,_,_,some (3,true)⟩ ?_
 refine Take.u 7 ⟨some 55,.move (.tmp 1),_,_,_,some (3,true)⟩ ?_
 refine Take.u 8 ⟨some 56,.move (.tmp 2),_,_,_,some (3,true)⟩ ?_
 refine Take.u 9 ⟨some 57,.index 9 (.tmp 55) (.tmp 56),_,_,_,some (3,true)⟩ ?_
 refine Take.u 10 ⟨some 58,.binOp .eql 5 (.tmp 54) (.tmp 57) 5,_,_,_,some (3,true)⟩ ?_
 refine Take.k 11 ⟨some 59,.pick (.tmp 51) (.tmp 58) (.const (.bool false)),_,_,_,none⟩ ?_
 refine Take.k 12 ⟨some 60,.move (.tmp 59),_,_,_,none⟩ ?_
 refine Take.k 13 ⟨some 61,.fieldAddr 62 (.tmp 3) 0,_,_,_,some (12,false)⟩ ?_
 refine Take.k 14 ⟨some 62,.load 3 (.tmp 61),_,_,_,some (12,false)⟩ ?_
 refine Take.k 15 ⟨some 63,.binOp .eql 3 (.tmp 62) (.const (.int .i64 2)) 3,_,_,_,some (12,false)⟩ ?_
 refine Take.k 16 ⟨some 64,.move (.tmp 63),_,_,_,some (12,false)⟩ ?_
 refine Take.k 17 ⟨some 65,.move (.tmp 1),_,_,_,some (16,true)⟩ ?_
 refine Take.k 18 ⟨some 66,.move (.tmp 2),_,_,_,some (16,true)⟩ ?_
 refine Take.k 19 ⟨some 67,.index 9 (.tmp 65) (.tmp 66),_,_,_,some (16,true)⟩ ?_
 refine Take.k 20 ⟨some 68,.binOp .neq 5 (.tmp 67) (.const (.int .u8 10)) 5,_,_,_,some (16,true)⟩ ?_
 refine Take.k 21 ⟨some 69,.pick (.tmp 64) (.tmp 68) (.const (.bool false)),_,_,_,some (12,false)⟩ ?_
 refine Take.k 22 ⟨some 70,.pick (.tmp 60) (.const (.bool true)) (.tmp 69),_,_,_,none⟩ ?_
 refine Take.k 23 ⟨some 71,.move (.tmp 70),_,_,_,none⟩ ?_
 refine Take.u 24 ⟨some 72,.fieldAddr 62 (.tmp 3) 0,_,_,_,some (23,false)⟩ ?_
 refine Take.u 25 ⟨some 73,.load 3 (.tmp 72),_,_,_,some (23,false)⟩ ?_
 refine Take.u 26 ⟨some 74,.binOp .eql 3 (.tmp 73) (.const (.int .i64 3)) 3,_,_,_,some (23,false)⟩ ?_
 refine Take.u 27 ⟨some 75,.move (.tmp 74),_,_,_,some (23,false)⟩ ?_
 refine Take.u 28 ⟨some 76,.fieldAddr 62 (.tmp 3) 1,_,_,_,some (27,true)⟩ ?_
 refine Take.u 29 ⟨some 77,.load 9 (.tmp 76),_,_,_,some (27,true)⟩ ?_
 refine Take.u 30 ⟨some 78,.move (.tmp 1),_,_,_,some (27,true)⟩ ?_
 refine Take.u 31 ⟨some 79,.move (.tmp 2),_,_,_,some (27,true)⟩ ?_
 refine Take.u 32 ⟨some 80,.index 9 (.tmp 78) (.tmp 79),_,_,_,some (27,true)⟩ ?_
 refine Take.u 33 ⟨some 81,.convert 5 3 (.tmp 80),_,_,_,some (27,true)⟩ ?_
 refine Take.u 34 ⟨some 82,.call ⟨.value (.func 23), #[.tmp 77,.tmp 81], #[9,3]⟩,_,_,_,some (27,true)⟩ ?_
 refine Take.u 35 ⟨some 83,.pick (.tmp 75) (.tmp 82) (.const (.bool false)),_,_,_,some (23,false)⟩ ?_
 refine Take.k 36 ⟨some 84,.pick (.tmp 71) (.const (.bool true)) (.tmp 83),_,_,_,none⟩ ?_
 refine wpAnyH_done (by kernel_rfl) ?_ _
 go_wp2_with fail
 go_ret
 have h9:=gives_2 L2.out jx q1
 exact h9
end
end W16
end Go.Proofs.YtehdnbidgphecaaGreatDoor
