/-
  Texts joined, in build order, each with its own comment and its own conditions: W14Size, W14Right, W14Atom, W14Part.
-/
import Derived.Test.YtfgegjinhkgpbaaGreatDoorTake
import Derived.Test.YtfgegjinhkgpbaaGreatDoorJ16
import Derived.Deep.RegionHeld3
import Derived.BigQuiet
import Derived.Test.YtfgegjinhkgpbaaGreatDoorJ07
import Derived.Test.YtfgegjinhkgpbaaGreatDoorJ10
import Derived.Test.YtfgegjinhkgpbaaGreatDoorJ08
namespace Go.Proofs.YtfgegjinhkgpbaaGreatDoor
set_option maxHeartbeats 4000000
set_option maxRecDepth 100000
open Go.RowKit
open Lib (hid)
namespace W14
open Strs Al Cj
open Kit (below_draws on)
theorem Lg {k:Int} (hk:k=1\/k=2\/k=3\/k=4\/k=5\/k=6) (t:ByteArray):Jg (Cj.leaf k t):=by
 intro w r h
 unfold RA
 rw[size_leaf hk]
 unfold Cj.leaf at h
 obtain⟨A,c,Ag,rfl,k1⟩:=h.parts
 have r1:=k1.room.2
 simp only[List.length_nil]
 clear h k1
 rcases hk with rfl|rfl|rfl|rfl|rfl|rfl
 all_goals
  go_enter Tryz.func44,Tryz.ntmps44
  go_wp2_with (first
   |(refine AV rfl (.tmp 0) rfl rfl ?_;intro w1 b1 e1 p1 l1 z1;have a0:=p1.c0;have L1:=hid l1;clear e1 p1 l1 z1;simp only at a0))
  go_ret
  exact⟨by first|rfl|simp,L1.out⟩
theorem oq {N M0:Nat} (h:min 4001 N=min 4001 M0):min (N:Int) 4001=((min 4001 M0:Nat):Int):=by omega
theorem dn {ks:List Piece} (IH: ∀i (hi:i<ks.length),Jg ks[i]):Jg (.mk 7 ⟨#[]⟩ ks 0 0):=by
 intro w r h
 unfold RA
 have hs:size (.mk 7 ⟨#[]⟩ ks 0 0)=min 4001 (sizes ks):=by
  unfold size
  rw[if_neg (by decide),if_neg (by decide),if_pos rfl]
 rw[hs]
 obtain⟨A,c,Ag,rfl,k1⟩:=h.parts
 have HI:=hid IH
 have K1:=hid k1
 have hr1:=k1.room.1
 have hr2:=k1.room.2
 clear h k1 IH hs
 go_enter Tryz.func44,Tryz.ntmps44
 go_wp2_with (first
  |(refine AV (r:=⟨7,⟨#[]⟩,A,ks.length,c,0,0⟩) rfl (.tmp 0) rfl rfl ?_;intro w1 b1 e1 p1 l1 z1;have a0:=p1.c0;have a2:=p1.c2;have L1:=hid l1;clear e1 p1 l1 z1;simp only at a0 a2))
 refine(Rc HI.out (K1.out.below L1.out)).mono ?_
 rintro e w2 ⟨N,rfl,hN1,J2,l2⟩
 have L2:=hid (L1.out.trans (l2.mono L1.out.size))
 have hmin:=oq hN1.out
 have jG:=hid hmin
 clear l2 hN1 J2
 go_wp2_with fail
 go_ret
 exact⟨by first|rfl|exact congrArg (fun x=>Ending.returned (Value.int .i64 x)) jG.out,L2.out⟩
theorem dw {ks:List Piece} (h3:ks.length<=1000/\2<=ks.length) (IH: ∀i (hi:i<ks.length),Jg ks[i]):Jg (.mk 8 ⟨#[]⟩ ks 0 0):=by
 intro w r h
 unfold RA
 have hs:size (.mk 8 ⟨#[]⟩ ks 0 0)=min 4001 (sizes ks+2*(ks.length-1)):=by
  unfold size
  rw[if_neg (by decide),if_neg (by decide),if_neg (by decide),if_pos rfl]
 rw[hs]
 obtain⟨A,c,Ag,rfl,k1⟩:=h.parts
 have HI:=hid IH
 have K1:=hid k1
 have hr1:=k1.room.1
 have hr2:=k1.room.2
 obtain⟨n,hn⟩: ∃n,ks.length=n+1:=⟨ks.length-1,by omega⟩
 have hwn:wrap64 ((ks.length:Int)-1)=(n:Int):=CR (by omega) (by omega)
 have hmx:max (n:Int) 0=(n:Int):=by omega
 have hw2:Hid (wrap64 (2*(n:Int))=((2*n:Nat):Int)):=CR (by rw[Int.natCast_mul];rfl) (by omega)
 obtain⟨m,hm⟩: ∃m,2*n=m:=⟨_,rfl⟩
 rw[hm]at hw2
 have HX:Hid (wrap64 (2*max ((ks.length:Int)-1) 0)=(m:Int)):=by
  unfold Hid
  rw[show max ((ks.length:Int)-1) 0=(n:Int) by omega];exact hw2.out
 have HWN:Hid (∀N:Nat,min 4001 N=min 4001 (sizes ks)->N<=4000000-> ∃s:Nat,Hid (wrap64 ((N:Int)+(m:Int))=(s:Int))/\Hid (min (s:Int) 4001=((min 4001 (sizes ks+2*(ks.length-1)):Nat):Int))):=by
  intro N h1 h2
  refine⟨N+m,dm (by rw[Int.natCast_add]) (by omega),?_⟩
  unfold Hid
  omega
 clear h k1 IH hs h3 hn hm
 replace hwn:=hid hwn
 go_enter Tryz.func44,Tryz.ntmps44
 go_wp2_with (first
  |(refine AV (r:=⟨8,⟨#[]⟩,A,ks.length,c,0,0⟩) rfl (.tmp 0) rfl rfl ?_;intro w1 b1 e1 p1 l1 z1;have P1:=hid p1;have a0:=p1.c0;have a2:=p1.c2;have L1:=hid l1;clear e1 p1 l1 z1;simp only at a0 a2))
 have S0:Hid ((w1.drewN 1).cell? ⟨b1,2,none⟩=some (.slice A ks.length c)/\Below w1.heap.size w1 (w1.drewN 1)):=⟨a2,below_draws w1 1⟩
 have KEEP:Hid (∀x,Below w1.heap.size w1 x->x.cell? ⟨b1,2,none⟩=some (.slice A ks.length c)/\Below w1.heap.size w1 x):=fun x hx=>⟨(P1.out.below hx).c2,hx⟩
 have K1:=hid (K1.out.below L1.out)
 refine wp_region_held_drew (S:=fun w'=>w'.cell? ⟨b1,2,none⟩=some (.slice A ks.length c)/\Below w1.heap.size w1 w') (by kernel_rfl) S0.out (fun hHeld=> ?_)
 refine Take.k 0 ⟨some 21,.fieldAddr 56 (.tmp 1) 2,_,_,_,none⟩ ?_
 refine Take.k 1 ⟨some 22,.load 54 (.tmp 21),_,_,_,none⟩ ?_
 refine Take.k 3 ⟨some 24,.fieldAddr 56 (.tmp 1) 2,_,_,_,none⟩ ?_
 refine Take.k 4 ⟨some 25,.load 54 (.tmp 24),_,_,_,none⟩ ?_
 refine Take.k 5 ⟨some 26,.call ⟨.builtin .len, #[.tmp 25], #[54]⟩,_,_,_,none⟩ ?_
 refine Take.k 6 ⟨some 27,.binOp .sub 3 (.tmp 26) (.const (.int .i64 1)) 3,_,_,_,none⟩ ?_
 refine Take.k 7 ⟨some 28,.call ⟨.builtin .max, #[.tmp 27,.const (.int .i64 0)], #[3,3]⟩,_,_,_,none⟩ ?_
 refine Take.k 8 ⟨some 29,.binOp .mul 3 (.const (.int .i64 2)) (.tmp 28) 3,_,_,_,none⟩ ?_
 refine wpAnyH_ready (rs:= [2]) (by kernel_rfl) (by simp) ?_
 refine AllReadyH.cons (o:=⟨some 23,.call ⟨.value (.func 73), #[.tmp 22], #[54]⟩,_,_,_,none⟩) rfl (fun K hK=> ?_) AllReadyH.nil
 go_simp
 (go_at_call 73;refine(Rc HI.out (K1.out.below S0.out.2)).mono ?_;rintro e x1 ⟨N,rfl,hN1,J2,l5⟩;have hS1:=KEEP.out _ (S0.out.2.trans (l5.mono S0.out.2.size));have hwN:=HWN.out N hN1.out J2.out;clear l5)
 go_wp2_with fail
 refine hK.out _ _ ?_ (fun hHeld=> ?_)
 ·exact hS1
 clear hK K
 try simp only[Act.put,Take.a,Take.b,Take.c]
 refine Take.k 9 ⟨some 30,.binOp .add 3 (.tmp 23) (.tmp 29) 3,_,_,_,none⟩ ?_
 refine Take.k 10 ⟨some 3,.assign (.tmp 30),_,_,_,none⟩ ?_
 refine wpAnyH_done (by kernel_rfl) ?_ _
 obtain⟨s,hs1,hs2⟩:=hwN
 have HV:Hid (min (wrap64 ((N:Int)+wrap64 (2*max ((ks.length:Int)-1) 0))) 4001=((min 4001 (sizes ks+2*(ks.length-1)):Nat):Int)):=by
  unfold Hid
  rw[HX.out,hs1.out];exact hs2.out
 have L9:=hid (L1.out.trans (hS1.2.mono L1.out.size))
 clear hS1 hmx hN1 J2 hs1 hs2
 go_wp2_with fail
 go_ret
 exact⟨by first|rfl|exact congrArg (fun x=>Ending.returned (Value.int .i64 x)) HV.out,L9.out⟩
theorem UW {p:Piece} {m t:Int} (hR: ∀(w:World) (r:Raw),Be w r (.mk 9 ⟨#[]⟩ [p] m t)->Calls Tryz.prog 74 #[.agg (Ak r)] w (bE w (size (.mk 9 ⟨#[]⟩ [p] m t)))):Jg (.mk 9 ⟨#[]⟩ [p] m t):=by
 intro w r h
 unfold RA
 have hle:=size_le (.mk 9 ⟨#[]⟩ [p] m t)
 have HR:=hid (fun w=>hR w r)
 have HL:=hid h
 obtain⟨s,hs⟩: ∃s,size (.mk 9 ⟨#[]⟩ [p] m t)=s:=⟨_,rfl⟩
 rw[hs]at HR hle ⊢
 obtain⟨A,c,Ag,rfl,k1⟩:=h.parts
 clear h k1 hs
 go_enter Tryz.func44,Tryz.ntmps44
 go_wp2_with (first
  |(refine AV (r:=⟨9,⟨#[]⟩,A,[p].length,c,m,t⟩) rfl (.tmp 0) rfl rfl ?_;intro w1 b1 e1 p1 l1 z1;have P1:=hid p1;have a0:=p1.c0;have L1:=hid l1;clear e1 p1 l1 z1;simp only at a0)
  |(refine AU (r:=⟨9,⟨#[]⟩,A,[p].length,c,m,t⟩) rfl (.tmp 1) rfl rfl P1.out ?_))
 refine(HR.out _ (HL.out.below L1.out)).mono ?_
 rintro e w2 ⟨N,rfl,hN1,J2,l2⟩
 have L2:=hid (L1.out.trans (l2.mono L1.out.size))
 have HV:Hid (min (N:Int) 4001=(s:Int)):=by have:=hN1.out;unfold Hid;omega
 clear l2 hN1 J2 hle
 go_wp2_with fail
 go_ret
 exact⟨by first|rfl|exact congrArg (fun x=>Ending.returned (Value.int .i64 x)) HV.out,L2.out⟩
theorem KX {p:Piece} (h:Whole p):Jg p:=by
 induction h with
 |none k hk=>exact Lg (by omega) _
 |char c=>exact Lg (by omega) _
 |set f=>exact Lg (by omega) _
 |many k hk l h2 h3 hw ih=>
  have IH: ∀i (hi:i<l.length),Jg l[i]:=fun i hi=>ih l[i] (List.getElem_mem hi)
  rcases hk with rfl|rfl
  ·exact dn IH
  exact dw ⟨h3,h2⟩ IH
 |rep p m t hm ht hw ih=>
  obtain⟨M,rfl⟩: ∃M:Nat,m=(M:Int):=⟨m.toNat,by omega⟩
  by_cases q:t= -1
  ·subst q;exact UW fun w r q=>TF (by omega) ih q
  obtain⟨T,rfl⟩: ∃T:Nat,t=(T:Int):=⟨t.toNat,by omega⟩
  exact UW fun w r q=>TG (by omega) (by omega) ih q
end W14
namespace W14
open Strs Al Cj
open Kit (below_draws on)
theorem bF (f:Nat->Bool) (w:World):Calls Tryz.prog 164 #[.string (FD.tx f)] w fun e w'=>e= .returned (.string (FD.tx fun i=> !f i))/\Below w.heap.size w w':=
 (FD.nX _ _).mono fun _ _ h=>⟨h.1.trans (congrArg (fun x=>Ending.returned (.string x)) (FD.Em fun i hi=>by rw[FD.VL f hi])),h.2⟩
theorem Ik (f:Nat->Bool) (w:World):Calls Tryz.prog 149 #[.string (txt f)] w fun e w'=>e= .returned (.bool true)/\Below w.heap.size w w':=by
 have h1:=bF f
 have h2:=bF (fun i=> !f i)
 rw[show(FD.tx fun i=> !(!f i))=FD.tx f from FD.Em fun _ _=>Bool.not_not _]at h2
 obtain⟨d,hd⟩: ∃d,FD.tx f=d:=⟨_,rfl⟩
 obtain⟨g,hg⟩: ∃g,(FD.tx fun i=> !f i)=g:=⟨_,rfl⟩
 rw[show txt f=FD.tx f from rfl]
 rw[hd,hg]at h1
 rw[hg,hd]at h2
 rw[hd]
 have H1:=hid h1
 have H2:=hid h2
 clear h1 h2 hd hg
 have te:(d.toList==d.toList)=true:=beq_self_eq_true _
 go_enter Tryz.func149,Tryz.ntmps149
 go_wp2_with fail
 refine(H1.out _).mono ?_
 rintro e w2 ⟨rfl,l2⟩
 have L2:=hid l2
 clear l2
 go_wp2_with fail
 refine(H2.out _).mono ?_
 rintro e w3 ⟨rfl,l3⟩
 have L3:=hid (on L2.out l3)
 clear l3
 go_wp2_with fail
 go_ret
 exact⟨rfl,L3.out⟩
def Ow (w:World) (e:Ending) (w':World):Prop:=e= .returned (.bool true)/\Below w.heap.size w w'
def Alike (p:Piece):Prop:= ∀(w:World) (r:Raw),Be w r p->Calls Tryz.prog 130 #[.agg (Ak r)] w (Ow w)
theorem Zd {k:Int} (hk:k=1\/k=3\/k=5\/k=6):Alike (Cj.leaf k ⟨#[]⟩):=by
 intro w r h
 unfold Ow
 unfold Cj.leaf at h
 obtain⟨A,c,Ag,rfl,k1⟩:=h.parts
 have r1:=k1.room.2
 clear h k1
 simp only[List.length_nil]
 rcases hk with rfl|rfl|rfl|rfl
 all_goals
  go_enter Tryz.func130,Tryz.ntmps130
  go_wp2_with (first
   |(refine AV rfl (.tmp 0) rfl rfl ?_;intro w1 b1 e1 p1 l1 z1;have a0:=p1.c0;have a1:=p1.c1;have a2:=p1.c2;have a3:=p1.c3;have a4:=p1.c4;have L1:=hid l1;clear e1 p1 l1 z1;simp only at a0 a1 a2 a3 a4))
  go_ret
  exact⟨rfl,L1.out⟩
theorem Ze (u:UInt8):Alike (Cj.leaf 2 (YW u)):=by
 intro w r h
 unfold Ow
 unfold Cj.leaf at h
 obtain⟨A,c,Ag,rfl,k1⟩:=h.parts
 have r1:=k1.room.2
 clear h k1
 simp only[List.length_nil]
 obtain⟨d,hd⟩: ∃d,YW u=d:=⟨_,rfl⟩
 have hz:d.size=1:=by rw[<-hd];rfl
 rw[hd]
 clear hd
 go_enter Tryz.func130,Tryz.ntmps130
 go_wp2_with (first
  |(refine AV rfl (.tmp 0) rfl rfl ?_;intro w1 b1 e1 p1 l1 z1;have a0:=p1.c0;have a1:=p1.c1;have a2:=p1.c2;have a3:=p1.c3;have a4:=p1.c4;have L1:=hid l1;clear e1 p1 l1 z1;simp only at a0 a1 a2 a3 a4))
 go_ret
 exact⟨rfl,L1.out⟩
theorem dx (f:Nat->Bool):Alike (Cj.leaf 4 (txt f)):=by
 intro w r h
 unfold Ow
 unfold Cj.leaf at h
 obtain⟨A,c,Ag,rfl,k1⟩:=h.parts
 have r1:=k1.room.2
 have HS:=hid (Ik f)
 clear h k1
 simp only[List.length_nil]
 obtain⟨d,hd⟩: ∃d,txt f=d:=⟨_,rfl⟩
 rw[hd]at HS ⊢
 clear hd
 go_enter Tryz.func130,Tryz.ntmps130
 go_wp2_with (first
  |(refine AV (r:=⟨4,d,A,0,c,0,0⟩) rfl (.tmp 0) rfl rfl ?_;intro w1 b1 e1 p1 l1 z1;have P1:=hid p1;have a0:=p1.c0;have a1:=p1.c1;have a2:=p1.c2;have a3:=p1.c3;have a4:=p1.c4;have L1:=hid l1;clear e1 p1 l1 z1;simp only at a0 a1 a2 a3 a4))
 refine(HS.out _).mono ?_
 rintro e w2 ⟨rfl,l2⟩
 have RH:=hid (P1.out.below l2)
 have L2:=hid (L1.out.trans (l2.mono L1.out.size))
 have d2:=RH.out.c2
 simp only at d2
 clear l2
 go_wp2_with fail
 go_ret
 exact⟨rfl,L2.out⟩
theorem Zf {k:Int} (hk:k=7\/k=8) {ks:List Piece} (h2:2<=ks.length):Alike (.mk k ⟨#[]⟩ ks 0 0):=by
 intro w r h
 unfold Ow
 obtain⟨A,c,Ag,rfl,k1⟩:=h.parts
 have hr1:=k1.room.1
 have hr2:=k1.room.2
 have t2:(2:Int)<=(ks.length:Int):=by omega
 clear h k1 h2
 rcases hk with rfl|rfl
 all_goals
  go_enter Tryz.func130,Tryz.ntmps130
  go_wp2_with (first
   |(refine AV rfl (.tmp 0) rfl rfl ?_;intro w1 b1 e1 p1 l1 z1;have a0:=p1.c0;have a1:=p1.c1;have a2:=p1.c2;have a3:=p1.c3;have a4:=p1.c4;have L1:=hid l1;clear e1 p1 l1 z1;simp only at a0 a1 a2 a3 a4))
  go_ret
  exact⟨rfl,L1.out⟩
theorem dz {p:Piece} {m t:Int} (ho:ax m t):Alike (.mk 9 ⟨#[]⟩ [p] m t):=by
 intro w r h
 unfold Ow
 obtain⟨A,c,Ag,rfl,k1⟩:=h.parts
 have hr:1<=c/\c<=9223372036854775807:=k1.room
 have HO:Hid (∀w,Calls Tryz.prog 97 #[.agg (Ak ⟨9,⟨#[]⟩,A,[p].length,c,m,t⟩)] w fun e w'=>e= .returned (.bool true)/\Below w.heap.size w w'):=fun w=>JU ho hr w
 clear h k1 hr ho
 go_enter Tryz.func130,Tryz.ntmps130
 go_wp2_with (first
  |(refine AV (r:=⟨9,⟨#[]⟩,A,[p].length,c,m,t⟩) rfl (.tmp 0) rfl rfl ?_;intro w1 b1 e1 p1 l1 z1;have P1:=hid p1;have a0:=p1.c0;have L1:=hid l1;clear e1 p1 l1 z1;simp only at a0)
  |(refine AU (r:=⟨9,⟨#[]⟩,A,[p].length,c,m,t⟩) rfl (.tmp 1) rfl rfl P1.out ?_))
 refine(HO.out _).mono ?_
 rintro e w2 ⟨rfl,l2⟩
 have L2:=hid (L1.out.trans (l2.mono L1.out.size))
 clear l2
 go_wp2_with fail
 go_ret
 exact⟨rfl,L2.out⟩
def j6 (p:Piece):Prop:= ∀(w:World) (r:Raw),Be w r p->Calls Tryz.prog 98 #[.agg (Ak r)] w (Ow w)
theorem I8 {k:Int} {t:ByteArray} {ks:List Piece} {l tp:Int} (hA:Alike (.mk k t ks l tp)) (IH: ∀i (hi:i<ks.length),j6 ks[i]):j6 (.mk k t ks l tp):=by
 intro w r h
 unfold Ow
 have HI:=hid IH
 have HA:=hid (fun w=>hA w r)
 have HL:=hid h
 obtain⟨A,c,Ag,rfl,k1⟩:=h.parts
 have K1:=hid k1
 have HR:=hid k1.room
 clear h k1 IH hA
 go_enter Tryz.func98,Tryz.ntmps98
 go_wp2_with (first
  |(refine AV (r:=⟨k,t,A,ks.length,c,l,tp⟩) rfl (.tmp 0) rfl rfl ?_;intro w1 b1 e1 p1 l1 z1;have P1:=hid p1;have L1:=hid l1;clear e1 p1 l1 z1)
  |(refine AU (r:=⟨k,t,A,ks.length,c,l,tp⟩) rfl (.tmp 1) rfl rfl P1.out ?_))
 refine(HA.out _ (HL.out.below L1.out)).mono ?_
 rintro e w2 ⟨rfl,l2⟩
 have RH:=hid (P1.out.below l2)
 have L2:=hid (L1.out.trans (l2.mono L1.out.size))
 have K2:=hid (K1.out.below L2.out)
 have a2:=RH.out.c2
 simp only at a2
 have hr1:=HR.out.1
 have hr2:=HR.out.2
 clear l2
 go_wp2_with fail
 clear a2 hr1 hr2
 go_loopg [11] ks.length (fun gk s11 wr=> ∃i:Nat,s11= .int .i64 i/\Hid (i+gk=ks.length)/\Hid (Kids wr A c Ag ks)/\Hid (Below w.heap.size w wr))
 case atStart=>exact⟨0,rfl,by unfold Hid;omega,K2,L2⟩
 case round=>
  obtain⟨i,rfl,hig,K1,HB⟩:=hrel
  have hn1:=HR.out.1
  have hn2:=HR.out.2
  by_cases hi:i<ks.length
  ·have ti:(i:Int)<(ks.length:Int):=by omega
   obtain⟨g1,o1,rfl,C1⟩:=K1.out.at_ (Nat.lt_of_le_of_lt (Nat.zero_le _) hi)
   obtain⟨hr1,q1⟩:=K1.out.kid hi
   have E1:=hid (C1 i hr1)
   have Q1:=hid q1
   have HI2:=hid hi
   obtain⟨rk,Hy⟩: ∃rk,Ag[i]'hr1=rk:=⟨_,rfl⟩
   rw[Hy]at E1 Q1
   have HC:=hid (fun(w:World) (h:Be w rk (ks[i]'hi))=>HI.out i hi w rk h)
   have DT:Hid (wrap64 ((i:Int)+1)=((i+1:Nat):Int)):=by unfold Hid wrap64;omega
   clear C1 q1 Hy
   go_wp2_with (first
    |(refine Aq rfl (.tmp 13) rfl rfl (r:=rk) E1.out ?_)
    |(refine AJ rfl rfl ?_;intro w3 b3 e3 p3 l3 z3)
    |(refine AB (r:=rk) rfl (.tmp 4) (.tmp 14) rfl rfl rfl p3 ?_;intro w4 p4 l4 z4;have L4:=hid (AY l3 l4 e3);have P4:=hid p4;clear e3 p3 l3 z3 p4 l4 z4)
    |(refine AU (r:=rk) rfl (.tmp 4) rfl rfl P4.out ?_))
   refine(HC.out _ (Q1.out.below L4.out)).mono ?_
   rintro e w5 ⟨rfl,l5⟩
   have K5:=hid ((K1.out.below L4.out).below l5)
   have B5:=hid (HB.out.trans ((L4.out.trans (l5.mono L4.out.size)).mono HB.out.size))
   clear l5
   cases gk with
   |zero=>exact absurd hig.out (by have:=HI2.out;omega)
   |succ g=>
    go_wp2_with fail
    go_roundg g
    case measure=>omega
    case rel=>exact⟨i+1,by first|rfl|exact congrArg (Value.int .i64) DT.out,by have:=hig.out;unfold Hid;omega,K5,B5⟩
  have ti: ¬(i:Int)<(ks.length:Int):=by omega
  go_wp2_with fail
  go_ret
  exact⟨rfl,HB.out⟩
theorem Zg {p:Piece} (h:Whole p):j6 p:=by
 induction h with
 |none k hk=>exact I8 (Zd hk) fun i hi=>absurd hi (by simp)
 |char c=>exact I8 (Ze c) fun i hi=>absurd hi (by simp)
 |set f=>exact I8 (dx f) fun i hi=>absurd hi (by simp)
 |many k hk l h2 h3 hw ih=>exact I8 (Zf hk h2) fun i hi=>ih l[i] (List.getElem_mem hi)
 |rep p m t hm ht hw ih=>
  refine I8 (dz ⟨hm,ht⟩) fun i hi=> ?_
  obtain rfl:i=0:=by simpa using hi
  exact ih
theorem KT {p:Piece} (h:Whole p) {w:World} {r:Raw} (hl:Be w r p):Calls Tryz.prog 75 #[.agg (Ak r)] w fun e w'=>e= .returned (.bool (decide ((size p:Int)<=4000)))/\Below w.heap.size w w':=by
 have HS:=hid (KX h)
 have HP:=hid (Zg h)
 have HL:=hid hl
 obtain⟨n,hn⟩: ∃n,size p=n:=⟨_,rfl⟩
 have HN:=hid hn
 rw[hn]
 clear h hl hn
 by_cases hb:(n:Int)<=4000
 ·have td:decide ((n:Int)<=4000)=true:=decide_eq_true hb
  rw[td]
  go_enter Tryz.func75,Tryz.ntmps75
  go_wp2_with (first
   |(refine AV (r:=r) rfl (.tmp 0) rfl rfl ?_;intro w1 b1 e1 p1 l1 z1;have P1:=hid p1;have L1:=hid l1;have a0:=p1.c0;have a1:=p1.c1;have a2:=p1.c2;have a3:=p1.c3;have a4:=p1.c4;clear e1 p1 l1 z1)
   |(refine AU (r:=r) rfl (.tmp 1) rfl rfl P1.out ?_))
  refine(HS.out _ _ (HL.out.below L1.out)).mono ?_
  rintro e w2 ⟨rfl,l2⟩
  rw[HN.out]
  have RH:=hid (P1.out.below l2)
  have L2:=hid (L1.out.trans (l2.mono L1.out.size))
  have a0:=RH.out.c0
  have a1:=RH.out.c1
  have a2:=RH.out.c2
  have a3:=RH.out.c3
  have a4:=RH.out.c4
  clear l2
  go_wp2_with fail
  refine(HP.out _ _ (HL.out.below L2.out)).mono ?_
  rintro e w3 ⟨rfl,l3⟩
  have L3:=hid (L2.out.trans (l3.mono L2.out.size))
  clear l3
  go_wp2_with fail
  go_ret
  exact⟨rfl,L3.out⟩
 have td:decide ((n:Int)<=4000)=false:=decide_eq_false hb
 rw[td]
 go_enter Tryz.func75,Tryz.ntmps75
 go_wp2_with (first
  |(refine AV (r:=r) rfl (.tmp 0) rfl rfl ?_;intro w1 b1 e1 p1 l1 z1;have P1:=hid p1;have L1:=hid l1;clear e1 p1 l1 z1)
  |(refine AU (r:=r) rfl (.tmp 1) rfl rfl P1.out ?_))
 refine(HS.out _ _ (HL.out.below L1.out)).mono ?_
 rintro e w2 ⟨rfl,l2⟩
 rw[HN.out]
 have L2:=hid (L1.out.trans (l2.mono L1.out.size))
 clear l2
 go_wp2_with fail
 go_ret
 exact⟨rfl,L2.out⟩
end W14
namespace W14
open Cj
open BU (Beside)
open Kit (Au AX BO CL Ae BM below_draws on Ap Bl Az Bb)
theorem Lh {b:Nat} {s:ByteArray} {deep:Nat} {w w':World} {g:Dg} {e:Ending} (h:Reads b s deep w g e w'): ∃r er,e= .returned (.tuple #[.agg (Ak r),.int .i64 er]):=by
 match g,h with
 | .ok p to,h=>obtain⟨_,r,e,_⟩:=h;exact⟨r,0,e⟩
 | .bad q er,h=>obtain⟨_,_,e,_⟩:=h;exact⟨Af,er,e⟩
theorem Ll {b c:Nat} {s:ByteArray} {deep:Nat} {w w1 w' w'':World} {g:Dg} {e:Ending} (h:Reads b s deep w1 g e w') (l:Below w.heap.size w w1) (k:Beside c w' w'') (h1:w.heap.size<=c) (h2:c<w1.heap.size) (hb:b≠c):Reads b s deep w g e w'':=by
 refine⟨BI ((Beside.of l).trans h.1) k h1,?_⟩
 match g,h with
 | .ok p to,h=>
  obtain⟨_,r,e,hr,hp⟩:=h
  exact⟨r,e,hr.beside k hb,(hp.Bg k h2).Cs l.size⟩
 | .bad q er,h=>
  obtain⟨_,he,e,d,hr⟩:=h
  exact⟨he,e,d,hr.beside k hb⟩
def j_ (R:Nat->Nat->Option Dg) (s:ByteArray) (at_ deep:Nat):Prop:=
 ∃g,atom R s.data.toList at_ deep=some g/\GN s.data.toList (at_+1) g/\ ∀w b,Reader w b s at_ deep->Calls Tryz.prog 147 #[.pointer (some ⟨b,0,none⟩)] w (Reads b s deep w g)
section
variable {w:World} {b:Nat} {s:ByteArray} {at_ deep:Nat}
theorem TH (h:Reader w b s at_ deep) (hat:at_<s.size) (hs:s.size<=900) (IX:s[at_]=40) {g:Dg}
    (hC: ∀w b,Reader w b s at_ deep->Calls Tryz.prog 160 #[.pointer (some ⟨b,0,none⟩)] w (Reads b s deep w g)):
    Calls Tryz.prog 147 #[.pointer (some ⟨b,0,none⟩)] w (Reads b s deep w g):=by
 have hlt:=h.lt
 have H:=hid h
 have h1:(at_:Int)<=(s.size:Int):=by omega
 have hz:(s.extract at_ s.size).size=s.size-at_:=by rw[ByteArray.size_extract];omega
 have hz0:0<(s.extract at_ s.size).size:=by omega
 have hz1:(1:Int)<=((s.extract at_ s.size).size:Int):=by omega
 have hz2:(0:Int)<((s.extract at_ s.size).size:Int):=by omega
 have hcc:(s.extract at_ s.size)[0]=s[at_]:=by
  have:=Kit.CO (s.extract at_ s.size) 0 hz0
  rw[Kit.Aa,Kit.Ay s at_ hat]at this
  exact this.symm
 have hw1:wrap64 ((at_:Int)+1)=((at_+1:Nat):Int):=by unfold wrap64;omega
 have t40:(((s.extract at_ s.size)[0].toNat:Int)==40)=true:=by rw[hcc];exact FU IX
 have HC:=hid hC
 clear hC hcc hw1 IX
 clear h
 go_enter Tryz.func147,Tryz.ntmps147
 go_wp2_with (first|(refine AJ rfl rfl ?_;intro w1 b1 e1 p1 l1 z1))
 have H1:=hid (H.out.below l1)
 have P1:=hid p1
 have L1:=hid l1
 have c0:=H1.out.c0
 have c1:=H1.out.c1
 clear p1 l1
 go_quiet (fail)
 have P2:Hid (Ad (w1.drewN nq) b1 Af):=P1
 have H2:Hid (Reader (w1.drewN nq) b s at_ deep):=H1
 have L2:=hid (L1.out.trans ((below_draws w1 nq).mono L1.out.size))
 have hzz:w1.heap.size<=(w1.drewN nq).heap.size:=Nat.le_refl _
 have d1:=H2.out.c1
 have f1:=H2.out.free 1
 have hne:b1≠b:=by omega
 generalize w1.drewN nq=w2 at*
 go_wp2_with fail
 refine(HC.out _ _ H2.out).mono ?_
 rintro e w3 hr
 obtain⟨r,er,rfl⟩:=Lh hr
 have R3:=hid hr
 have P3:=hid (P2.out.beside hr.1 hne)
 clear hr
 go_wp2_with (first|(refine AB (r:=r) rfl (.tmp 2) (.tmp 20) rfl rfl rfl P3.out ?_;intro w4 p4 l4 z4))
 refine BP rfl rfl p4 rfl ?_
 exact Ll R3.out L2.out l4 (by omega) (by omega) hne.symm
theorem kC (h:Reader w b s at_ deep) (hat:at_<s.size) (hs:s.size<=900) (IX: ¬s[at_]=40) (FX:s[at_]=91) {g:Dg}
    (hC: ∀w b,Reader w b s at_ deep->Calls Tryz.prog 161 #[.pointer (some ⟨b,0,none⟩)] w (Reads b s deep w g)):
    Calls Tryz.prog 147 #[.pointer (some ⟨b,0,none⟩)] w (Reads b s deep w g):=by
 have hlt:=h.lt
 have H:=hid h
 have h1:(at_:Int)<=(s.size:Int):=by omega
 have hz:(s.extract at_ s.size).size=s.size-at_:=by rw[ByteArray.size_extract];omega
 have hz0:0<(s.extract at_ s.size).size:=by omega
 have hz1:(1:Int)<=((s.extract at_ s.size).size:Int):=by omega
 have hz2:(0:Int)<((s.extract at_ s.size).size:Int):=by omega
 have hcc:(s.extract at_ s.size)[0]=s[at_]:=by
  have:=Kit.CO (s.extract at_ s.size) 0 hz0
  rw[Kit.Aa,Kit.Ay s at_ hat]at this
  exact this.symm
 have hw1:wrap64 ((at_:Int)+1)=((at_+1:Nat):Int):=by unfold wrap64;omega
 have t40:(((s.extract at_ s.size)[0].toNat:Int)==40)=false:=by rw[hcc];exact Ce IX
 have t91:(((s.extract at_ s.size)[0].toNat:Int)==91)=true:=by rw[hcc];exact FU FX
 have HC:=hid hC
 clear hC hcc hw1 IX FX
 clear h
 go_enter Tryz.func147,Tryz.ntmps147
 go_wp2_with (first|(refine AJ rfl rfl ?_;intro w1 b1 e1 p1 l1 z1))
 have H1:=hid (H.out.below l1)
 have P1:=hid p1
 have L1:=hid l1
 have c0:=H1.out.c0
 have c1:=H1.out.c1
 clear p1 l1
 go_quiet (fail)
 have P2:Hid (Ad (w1.drewN nq) b1 Af):=P1
 have H2:Hid (Reader (w1.drewN nq) b s at_ deep):=H1
 have L2:=hid (L1.out.trans ((below_draws w1 nq).mono L1.out.size))
 have hzz:w1.heap.size<=(w1.drewN nq).heap.size:=Nat.le_refl _
 have d1:=H2.out.c1
 have f1:=H2.out.free 1
 have hne:b1≠b:=by omega
 generalize w1.drewN nq=w2 at*
 go_wp2_with fail
 refine(HC.out _ _ H2.out).mono ?_
 rintro e w3 hr
 obtain⟨r,er,rfl⟩:=Lh hr
 have R3:=hid hr
 have P3:=hid (P2.out.beside hr.1 hne)
 clear hr
 go_wp2_with (first|(refine AB (r:=r) rfl (.tmp 2) (.tmp 26) rfl rfl rfl P3.out ?_;intro w4 p4 l4 z4))
 refine BP rfl rfl p4 rfl ?_
 exact Ll R3.out L2.out l4 (by omega) (by omega) hne.symm
theorem VV (h:Reader w b s at_ deep) (hat:at_<s.size) (hs:s.size<=900) (IX: ¬s[at_]=40) (FX: ¬s[at_]=91) (Fy:s[at_]=92) {g:Dg}
    (hC: ∀w b,Reader w b s at_ deep->Calls Tryz.prog 162 #[.pointer (some ⟨b,0,none⟩)] w (Reads b s deep w g)):
    Calls Tryz.prog 147 #[.pointer (some ⟨b,0,none⟩)] w (Reads b s deep w g):=by
 have hlt:=h.lt
 have H:=hid h
 have h1:(at_:Int)<=(s.size:Int):=by omega
 have hz:(s.extract at_ s.size).size=s.size-at_:=by rw[ByteArray.size_extract];omega
 have hz0:0<(s.extract at_ s.size).size:=by omega
 have hz1:(1:Int)<=((s.extract at_ s.size).size:Int):=by omega
 have hz2:(0:Int)<((s.extract at_ s.size).size:Int):=by omega
 have hcc:(s.extract at_ s.size)[0]=s[at_]:=by
  have:=Kit.CO (s.extract at_ s.size) 0 hz0
  rw[Kit.Aa,Kit.Ay s at_ hat]at this
  exact this.symm
 have hw1:wrap64 ((at_:Int)+1)=((at_+1:Nat):Int):=by unfold wrap64;omega
 have t40:(((s.extract at_ s.size)[0].toNat:Int)==40)=false:=by rw[hcc];exact Ce IX
 have t91:(((s.extract at_ s.size)[0].toNat:Int)==91)=false:=by rw[hcc];exact Ce FX
 have t92:(((s.extract at_ s.size)[0].toNat:Int)==92)=true:=by rw[hcc];exact FU Fy
 have HC:=hid hC
 clear hC hcc hw1 IX FX Fy
 clear h
 go_enter Tryz.func147,Tryz.ntmps147
 go_wp2_with (first|(refine AJ rfl rfl ?_;intro w1 b1 e1 p1 l1 z1))
 have H1:=hid (H.out.below l1)
 have P1:=hid p1
 have L1:=hid l1
 have c0:=H1.out.c0
 have c1:=H1.out.c1
 clear p1 l1
 go_quiet (fail)
 have P2:Hid (Ad (w1.drewN nq) b1 Af):=P1
 have H2:Hid (Reader (w1.drewN nq) b s at_ deep):=H1
 have L2:=hid (L1.out.trans ((below_draws w1 nq).mono L1.out.size))
 have hzz:w1.heap.size<=(w1.drewN nq).heap.size:=Nat.le_refl _
 have d1:=H2.out.c1
 have f1:=H2.out.free 1
 have hne:b1≠b:=by omega
 generalize w1.drewN nq=w2 at*
 go_wp2_with fail
 refine(HC.out _ _ H2.out).mono ?_
 rintro e w3 hr
 obtain⟨r,er,rfl⟩:=Lh hr
 have R3:=hid hr
 have P3:=hid (P2.out.beside hr.1 hne)
 clear hr
 go_wp2_with (first|(refine AB (r:=r) rfl (.tmp 2) (.tmp 32) rfl rfl rfl P3.out ?_;intro w4 p4 l4 z4))
 refine BP rfl rfl p4 rfl ?_
 exact Ll R3.out L2.out l4 (by omega) (by omega) hne.symm
theorem Zh (h:Reader w b s at_ deep) (hat:at_<s.size) (hs:s.size<=900) (IX: ¬s[at_]=40) (FX: ¬s[at_]=91) (Fy: ¬s[at_]=92) (h46:s[at_]=46):
    Calls Tryz.prog 147 #[.pointer (some ⟨b,0,none⟩)] w (Reads b s deep w (.ok (leaf 3 ⟨#[]⟩) (at_+1))):=by
 have hlt:=h.lt
 have H:=hid h
 have h1:(at_:Int)<=(s.size:Int):=by omega
 have hz:(s.extract at_ s.size).size=s.size-at_:=by rw[ByteArray.size_extract];omega
 have hz0:0<(s.extract at_ s.size).size:=by omega
 have hz1:(1:Int)<=((s.extract at_ s.size).size:Int):=by omega
 have hz2:(0:Int)<((s.extract at_ s.size).size:Int):=by omega
 have hcc:(s.extract at_ s.size)[0]=s[at_]:=by
  have:=Kit.CO (s.extract at_ s.size) 0 hz0
  rw[Kit.Aa,Kit.Ay s at_ hat]at this
  exact this.symm
 have hw1:wrap64 ((at_:Int)+1)=((at_+1:Nat):Int):=by unfold wrap64;omega
 have t40:(((s.extract at_ s.size)[0].toNat:Int)==40)=false:=by rw[hcc];exact Ce IX
 have t91:(((s.extract at_ s.size)[0].toNat:Int)==91)=false:=by rw[hcc];exact Ce FX
 have t92:(((s.extract at_ s.size)[0].toNat:Int)==92)=false:=by rw[hcc];exact Ce Fy
 have t46:(((s.extract at_ s.size)[0].toNat:Int)==46)=true:=by rw[hcc];exact FU h46
 clear hcc IX FX Fy h46
 clear h
 go_enter Tryz.func147,Tryz.ntmps147
 go_wp2_with (first|(refine AJ rfl rfl ?_;intro w1 b1 e1 p1 l1 z1))
 have H1:=hid (H.out.below l1)
 have P1:=hid p1
 have L1:=hid l1
 have c0:=H1.out.c0
 have c1:=H1.out.c1
 clear p1 l1
 go_quiet (fail)
 have P2:Hid (Ad (w1.drewN nq) b1 Af):=P1
 have H2:Hid (Reader (w1.drewN nq) b s at_ deep):=H1
 have L2:=hid (L1.out.trans ((below_draws w1 nq).mono L1.out.size))
 have hzz:w1.heap.size<=(w1.drewN nq).heap.size:=Nat.le_refl _
 have d1:=H2.out.c1
 have f1:=H2.out.free 1
 have hne:b1≠b:=by omega
 generalize w1.drewN nq=w2 at*
 go_wp2_with (first|(refine AB (r:=⟨3,⟨#[]⟩,none,0,0,0,0⟩) rfl (.tmp 2) (.tmp 45) rfl rfl rfl (Ad.beside P2.out (BH _ _ _ _) hne) ?_;intro w4 p4 l4 z4))
 refine BP rfl rfl p4 rfl ?_
 have B:=BI ((Beside.of (b:=b) L2.out).trans (BH w2 b 1 (.int .i64 ((at_+1:Nat):Int)))) l4 (by omega)
 exact⟨B,_,rfl,(H2.out.NZ (at_+1)).beside l4 hne.symm,DF.leaf _ _ 3 _⟩
theorem Zi (h:Reader w b s at_ deep) (hat:at_<s.size) (hs:s.size<=900) (IX: ¬s[at_]=40) (FX: ¬s[at_]=91) (Fy: ¬s[at_]=92) (h46: ¬s[at_]=46) (Jh:s[at_]=94):
    Calls Tryz.prog 147 #[.pointer (some ⟨b,0,none⟩)] w (Reads b s deep w (.ok (leaf 5 ⟨#[]⟩) (at_+1))):=by
 have hlt:=h.lt
 have H:=hid h
 have h1:(at_:Int)<=(s.size:Int):=by omega
 have hz:(s.extract at_ s.size).size=s.size-at_:=by rw[ByteArray.size_extract];omega
 have hz0:0<(s.extract at_ s.size).size:=by omega
 have hz1:(1:Int)<=((s.extract at_ s.size).size:Int):=by omega
 have hz2:(0:Int)<((s.extract at_ s.size).size:Int):=by omega
 have hcc:(s.extract at_ s.size)[0]=s[at_]:=by
  have:=Kit.CO (s.extract at_ s.size) 0 hz0
  rw[Kit.Aa,Kit.Ay s at_ hat]at this
  exact this.symm
 have hw1:wrap64 ((at_:Int)+1)=((at_+1:Nat):Int):=by unfold wrap64;omega
 have t40:(((s.extract at_ s.size)[0].toNat:Int)==40)=false:=by rw[hcc];exact Ce IX
 have t91:(((s.extract at_ s.size)[0].toNat:Int)==91)=false:=by rw[hcc];exact Ce FX
 have t92:(((s.extract at_ s.size)[0].toNat:Int)==92)=false:=by rw[hcc];exact Ce Fy
 have t46:(((s.extract at_ s.size)[0].toNat:Int)==46)=false:=by rw[hcc];exact Ce h46
 have t94:(((s.extract at_ s.size)[0].toNat:Int)==94)=true:=by rw[hcc];exact FU Jh
 clear hcc IX FX Fy h46 Jh
 clear h
 go_enter Tryz.func147,Tryz.ntmps147
 go_wp2_with (first|(refine AJ rfl rfl ?_;intro w1 b1 e1 p1 l1 z1))
 have H1:=hid (H.out.below l1)
 have P1:=hid p1
 have L1:=hid l1
 have c0:=H1.out.c0
 have c1:=H1.out.c1
 clear p1 l1
 go_quiet (fail)
 have P2:Hid (Ad (w1.drewN nq) b1 Af):=P1
 have H2:Hid (Reader (w1.drewN nq) b s at_ deep):=H1
 have L2:=hid (L1.out.trans ((below_draws w1 nq).mono L1.out.size))
 have hzz:w1.heap.size<=(w1.drewN nq).heap.size:=Nat.le_refl _
 have d1:=H2.out.c1
 have f1:=H2.out.free 1
 have hne:b1≠b:=by omega
 generalize w1.drewN nq=w2 at*
 go_wp2_with (first|(refine AB (r:=⟨5,⟨#[]⟩,none,0,0,0,0⟩) rfl (.tmp 2) (.tmp 48) rfl rfl rfl (Ad.beside P2.out (BH _ _ _ _) hne) ?_;intro w4 p4 l4 z4))
 refine BP rfl rfl p4 rfl ?_
 have B:=BI ((Beside.of (b:=b) L2.out).trans (BH w2 b 1 (.int .i64 ((at_+1:Nat):Int)))) l4 (by omega)
 exact⟨B,_,rfl,(H2.out.NZ (at_+1)).beside l4 hne.symm,DF.leaf _ _ 5 _⟩
theorem kD (h:Reader w b s at_ deep) (hat:at_<s.size) (hs:s.size<=900) (IX: ¬s[at_]=40) (FX: ¬s[at_]=91) (Fy: ¬s[at_]=92) (h46: ¬s[at_]=46) (Jh: ¬s[at_]=94) (V9:s[at_]=36):
    Calls Tryz.prog 147 #[.pointer (some ⟨b,0,none⟩)] w (Reads b s deep w (.ok (leaf 6 ⟨#[]⟩) (at_+1))):=by
 have hlt:=h.lt
 have H:=hid h
 have h1:(at_:Int)<=(s.size:Int):=by omega
 have hz:(s.extract at_ s.size).size=s.size-at_:=by rw[ByteArray.size_extract];omega
 have hz0:0<(s.extract at_ s.size).size:=by omega
 have hz1:(1:Int)<=((s.extract at_ s.size).size:Int):=by omega
 have hz2:(0:Int)<((s.extract at_ s.size).size:Int):=by omega
 have hcc:(s.extract at_ s.size)[0]=s[at_]:=by
  have:=Kit.CO (s.extract at_ s.size) 0 hz0
  rw[Kit.Aa,Kit.Ay s at_ hat]at this
  exact this.symm
 have hw1:wrap64 ((at_:Int)+1)=((at_+1:Nat):Int):=by unfold wrap64;omega
 have t40:(((s.extract at_ s.size)[0].toNat:Int)==40)=false:=by rw[hcc];exact Ce IX
 have t91:(((s.extract at_ s.size)[0].toNat:Int)==91)=false:=by rw[hcc];exact Ce FX
 have t92:(((s.extract at_ s.size)[0].toNat:Int)==92)=false:=by rw[hcc];exact Ce Fy
 have t46:(((s.extract at_ s.size)[0].toNat:Int)==46)=false:=by rw[hcc];exact Ce h46
 have t94:(((s.extract at_ s.size)[0].toNat:Int)==94)=false:=by rw[hcc];exact Ce Jh
 have t36:(((s.extract at_ s.size)[0].toNat:Int)==36)=true:=by rw[hcc];exact FU V9
 clear hcc IX FX Fy h46 Jh V9
 clear h
 go_enter Tryz.func147,Tryz.ntmps147
 go_wp2_with (first|(refine AJ rfl rfl ?_;intro w1 b1 e1 p1 l1 z1))
 have H1:=hid (H.out.below l1)
 have P1:=hid p1
 have L1:=hid l1
 have c0:=H1.out.c0
 have c1:=H1.out.c1
 clear p1 l1
 go_quiet (fail)
 have P2:Hid (Ad (w1.drewN nq) b1 Af):=P1
 have H2:Hid (Reader (w1.drewN nq) b s at_ deep):=H1
 have L2:=hid (L1.out.trans ((below_draws w1 nq).mono L1.out.size))
 have hzz:w1.heap.size<=(w1.drewN nq).heap.size:=Nat.le_refl _
 have d1:=H2.out.c1
 have f1:=H2.out.free 1
 have hne:b1≠b:=by omega
 generalize w1.drewN nq=w2 at*
 go_wp2_with (first|(refine AB (r:=⟨6,⟨#[]⟩,none,0,0,0,0⟩) rfl (.tmp 2) (.tmp 51) rfl rfl rfl (Ad.beside P2.out (BH _ _ _ _) hne) ?_;intro w4 p4 l4 z4))
 refine BP rfl rfl p4 rfl ?_
 have B:=BI ((Beside.of (b:=b) L2.out).trans (BH w2 b 1 (.int .i64 ((at_+1:Nat):Int)))) l4 (by omega)
 exact⟨B,_,rfl,(H2.out.NZ (at_+1)).beside l4 hne.symm,DF.leaf _ _ 6 _⟩
theorem d_ (h:Reader w b s at_ deep) (hat:at_<s.size) (hs:s.size<=900) (IX: ¬s[at_]=40) (FX: ¬s[at_]=91) (Fy: ¬s[at_]=92) (h46: ¬s[at_]=46) (Jh: ¬s[at_]=94) (V9: ¬s[at_]=36):
    Calls Tryz.prog 147 #[.pointer (some ⟨b,0,none⟩)] w (Reads b s deep w (.ok (leaf 2 (YW s[at_])) (at_+1))):=by
 have hlt:=h.lt
 have H:=hid h
 have h1:(at_:Int)<=(s.size:Int):=by omega
 have hz:(s.extract at_ s.size).size=s.size-at_:=by rw[ByteArray.size_extract];omega
 have hz0:0<(s.extract at_ s.size).size:=by omega
 have hz1:(1:Int)<=((s.extract at_ s.size).size:Int):=by omega
 have hz2:(0:Int)<((s.extract at_ s.size).size:Int):=by omega
 have hcc:(s.extract at_ s.size)[0]=s[at_]:=by
  have:=Kit.CO (s.extract at_ s.size) 0 hz0
  rw[Kit.Aa,Kit.Ay s at_ hat]at this
  exact this.symm
 have hw1:wrap64 ((at_:Int)+1)=((at_+1:Nat):Int):=by unfold wrap64;omega
 have t40:(((s.extract at_ s.size)[0].toNat:Int)==40)=false:=by rw[hcc];exact Ce IX
 have t91:(((s.extract at_ s.size)[0].toNat:Int)==91)=false:=by rw[hcc];exact Ce FX
 have t92:(((s.extract at_ s.size)[0].toNat:Int)==92)=false:=by rw[hcc];exact Ce Fy
 have t46:(((s.extract at_ s.size)[0].toNat:Int)==46)=false:=by rw[hcc];exact Ce h46
 have t94:(((s.extract at_ s.size)[0].toNat:Int)==94)=false:=by rw[hcc];exact Ce Jh
 have t36:(((s.extract at_ s.size)[0].toNat:Int)==36)=false:=by rw[hcc];exact Ce V9
 have xe:=hid (ib hat)
 clear hcc IX FX Fy h46 Jh V9
 clear h
 go_enter Tryz.func147,Tryz.ntmps147
 go_wp2_with (first|(refine AJ rfl rfl ?_;intro w1 b1 e1 p1 l1 z1))
 have H1:=hid (H.out.below l1)
 have P1:=hid p1
 have L1:=hid l1
 have c0:=H1.out.c0
 have c1:=H1.out.c1
 clear p1 l1
 go_quiet (fail)
 have P2:Hid (Ad (w1.drewN nq) b1 Af):=P1
 have H2:Hid (Reader (w1.drewN nq) b s at_ deep):=H1
 have L2:=hid (L1.out.trans ((below_draws w1 nq).mono L1.out.size))
 have hzz:w1.heap.size<=(w1.drewN nq).heap.size:=Nat.le_refl _
 have d1:=H2.out.c1
 have f1:=H2.out.free 1
 have hne:b1≠b:=by omega
 generalize w1.drewN nq=w2 at*
 go_wp2_with (first|(refine AB (r:=⟨2,(s.extract at_ s.size).extract 0 1,none,0,0,0,0⟩) rfl (.tmp 2) (.tmp 54) rfl rfl rfl (Ad.beside P2.out (BH _ _ _ _) hne) ?_;intro w4 p4 l4 z4))
 refine BP rfl rfl p4 rfl ?_
 have B:=BI ((Beside.of (b:=b) L2.out).trans (BH w2 b 1 (.int .i64 ((at_+1:Nat):Int)))) l4 (by omega)
 rw[xe.out]
 exact⟨B,_,rfl,(H2.out.NZ (at_+1)).beside l4 hne.symm,DF.leaf _ _ 2 _⟩
theorem UX {R:Nat->Nat->Option Dg} {S:List UInt8} (h:S.getD at_ 0=40) (hR:deep≠64-> ∃g,R (at_+1) (deep+1)=some g):atom R S at_ deep=some (Im R S at_ deep):=by
 unfold atom Im
 rw[if_pos h]
 by_cases h64:deep=64
 ·rw[if_pos h64,if_pos h64]
 rw[if_neg h64,if_neg h64]
 obtain⟨g,e⟩:=hR h64
 rw[e]
 cases g with
 |bad q er=>rfl
 |ok p to=>
  simp only
  by_cases ht:to=S.length
  ·rw[if_pos ht,if_pos ht]
  rw[if_neg ht,if_neg ht]
theorem UY {R:Nat->Nat->Option Dg} {S:List UInt8} (h:S.getD at_ 0=91):atom R S at_ deep=some (if(Ew.parse (S.drop at_)).2.2≠0 then .bad at_ (Ew.parse (S.drop at_)).2.2 else .ok (leaf 4 (txt (Ew.parse (S.drop at_)).1)) (at_+(Ew.parse (S.drop at_)).2.1)):=by
 unfold atom
 rw[if_neg (by rw[h];decide),if_pos h]
 split<;>rfl
theorem UZ {R:Nat->Nat->Option Dg} {S:List UInt8} (h:S.getD at_ 0=92):atom R S at_ deep=some (En S at_):=by
 unfold atom En
 rw[h,if_neg (by decide),if_neg (by decide),if_neg (by decide),if_neg (by decide),if_neg (by decide),if_neg (by decide),if_neg (by decide)]
 split
 ·rfl
 split<;>rfl
theorem kE {R:Nat->Nat->Option Dg} (hR:Ol s R (at_+1)) (hat:at_<s.size) (hs:s.size<=900) (hd:deep<=64) (Jk: ¬s[at_]=42) (h43: ¬s[at_]=43) (h63: ¬s[at_]=63) (FV: ¬s[at_]=123):j_ R s at_ deep:=by
 have hlen:s.data.toList.length=s.size:=(Lib.size_eq s).symm
 have hc:s.data.toList.getD at_ 0=s[at_]:=Kit.CO s at_ hat
 have hg:deep≠64->at_+1<=s.data.toList.length-> ∃g,R (at_+1) (deep+1)=some g/\GN s.data.toList (at_+1) g:=fun h q=>by
  obtain⟨g,e,hf,-⟩:=hR (at_+1) (deep+1) (Nat.le_refl _) (by omega) (by omega)
  exact⟨g,e,hf⟩
 obtain⟨g,e,hf⟩:=NW (R:=R) (deep:=deep) (S:=s.data.toList) (at_:=at_) (by omega) hg
 refine⟨g,e,hf,fun w b h=> ?_⟩
 by_cases IX:s[at_]=40
 ·rw[UX (by rw[hc];exact IX) (fun q=>by obtain⟨g,e,-⟩:=hg q (by omega);exact⟨g,e⟩)]at e
  injection e with e
  subst e
  exact TH h hat hs IX fun w b h=>VI hR hat hs hd h
 by_cases FX:s[at_]=91
 ·rw[UY (by rw[hc];exact FX)]at e
  injection e with e
  subst e
  exact kC h hat hs IX FX fun w b h=>VB h hat hs
 by_cases Fy:s[at_]=92
 ·rw[UZ (by rw[hc];exact Fy)]at e
  injection e with e
  subst e
  exact VV h hat hs IX FX Fy fun w b h=>XF h hat hs
 unfold atom at e
 rw[hc,if_neg IX,if_neg FX]at e
 by_cases h46:s[at_]=46
 ·rw[if_pos h46]at e
  injection e with e
  subst e
  exact Zh h hat hs IX FX Fy h46
 rw[if_neg h46]at e
 by_cases Jh:s[at_]=94
 ·rw[if_pos Jh]at e
  injection e with e
  subst e
  exact Zi h hat hs IX FX Fy h46 Jh
 rw[if_neg Jh]at e
 by_cases V9:s[at_]=36
 ·rw[if_pos V9]at e
  injection e with e
  subst e
  exact kD h hat hs IX FX Fy h46 Jh V9
 rw[if_neg V9,if_neg (by rintro(q|q|q|q)<;>contradiction),if_pos Fy]at e
 injection e with e
 subst e
 exact d_ h hat hs IX FX Fy h46 Jh V9
end
end W14
namespace W14
open Al Cj
open BU (Beside)
open Kit (Au AX BO CL Ae BM below_draws on Ap Bl Az Bb)
section
variable {w:World} {b:Nat} {s:ByteArray} {at_ deep:Nat}
theorem kF (h:Reader w b s at_ deep) {q:Nat} {er:Int}
    (hC: ∀w b,Reader w b s at_ deep->Calls Tryz.prog 147 #[.pointer (some ⟨b,0,none⟩)] w (Reads b s deep w (.bad q er))):
    Calls Tryz.prog 128 #[.pointer (some ⟨b,0,none⟩)] w (Reads b s deep w (.bad q er)):=by
 have hlt:=h.lt
 have H:=hid h
 have HC:=hid hC
 clear h hC
 go_enter Tryz.func128,Tryz.ntmps128
 go_wp2_with (first|(refine AJ rfl rfl ?_;intro w1 b1 e1 p1 l1 z1))
 have hne:b1≠b:=by omega
 refine(HC.out _ _ (H.out.below l1)).mono ?_
 rintro e w2 ⟨b4,he,rfl,d,hr⟩
 have B2:=hid b4
 have P2:=hid (Ad.beside p1 B2.out hne)
 have H2:=hid hr
 have te:(er !=0)=true:=by simpa using he
 have HE:=hid he
 have hz:=B2.out.size
 clear b4 hr he
 go_wp2_with (first
  |(refine AJ rfl rfl ?_;intro w5 b2 e5 p5 l5 z5)
  |(refine AB (r:=Af) rfl (.tmp 4) (.tmp 12) rfl rfl rfl p5 ?_;intro w6 p6 l6 z6;have L6:=hid (AY l5 l6 e5);have P6:=hid (P2.out.below L6.out))
  |(refine AB (r:=Af) rfl (.tmp 2) (.tmp 16) rfl rfl rfl P6.out ?_;intro w7 p7 l7 z7))
 refine BP rfl rfl p7 rfl ?_
 exact⟨BI ((Beside.of (b:=b) l1).trans (BF B2.out L6.out)) l7 (by omega),HE.out,rfl,_,(H2.out.below L6.out).beside l7 hne.symm⟩
theorem Zj (h:Reader w b s at_ deep) (hs:s.size<=900) {p:Piece} {to:Nat} (hto:to<=s.size) {er m t:Int} {n:Nat} (hT:EJ (s.data.toList.drop to)=(er,m,t,n)) (he:er≠0)
    (hC: ∀w b,Reader w b s at_ deep->Calls Tryz.prog 147 #[.pointer (some ⟨b,0,none⟩)] w (Reads b s deep w (.ok p to))):
    Calls Tryz.prog 128 #[.pointer (some ⟨b,0,none⟩)] w (Reads b s deep w (.bad to er)):=by
 have hlt:=h.lt
 have H:=hid h
 have HC:=hid hC
 have h1:(to:Int)<=(s.size:Int):=by omega
 have HT:Hid (∀w,Calls Tryz.prog 148 #[.string (s.extract to s.size)] w fun e w'=>e= .returned (.tuple #[.int .i64 m,.int .i64 t,.int .i64 n,.int .i64 er])/\Below w.heap.size w w'):=by
  intro w
  have:=Ng (s.extract to s.size) (by rw[ByteArray.size_extract];omega) w
  rw[Kit.Aa,hT]at this
  exact this
 have te:(er !=0)=true:=by simpa using he
 have HE:=hid he
 clear he
 clear h hC hT
 go_enter Tryz.func128,Tryz.ntmps128
 go_wp2_with (first|(refine AJ rfl rfl ?_;intro w1 b1 e1 p1 l1 z1))
 have hne:b1≠b:=by omega
 refine(HC.out _ _ (H.out.below l1)).mono ?_
 rintro e w2 ⟨b4,r,rfl,hr,hp⟩
 have B2:=hid b4
 have P2:=hid (Ad.beside p1 B2.out hne)
 have H2:=hid hr
 have A2:=hid hp
 have hz:=B2.out.size
 clear b4 hr hp
 go_wp2_with (first
  |(refine AJ rfl rfl ?_;intro w5 b2 e5 p5 l5 z5)
  |(refine AB (r:=r) rfl (.tmp 4) (.tmp 12) rfl rfl rfl p5 ?_;intro w6 p6 l6 z6;have L6:=hid (AY l5 l6 e5);have P6:=hid (P2.out.below L6.out);have H6:=hid (H2.out.below L6.out);have A6:=hid (A2.out.CP L6.out);have Q6:=hid p6))
 have kG:=H6.out.lt
 have d0:=H6.out.c0
 have d1:=H6.out.c1
 have B6:=hid ((Beside.of (b:=b) l1).trans (BF B2.out L6.out))
 clear p6
 go_region_held3 (fun w'=>w'.cell? ⟨b,0,none⟩=some (.string s)/\w'.cell? ⟨b,1,none⟩=some (.int .i64 to)/\Below w6.heap.size w6 w')
  (first|exact aa kG (by assumption) Ox|exact Mg H6.out|exact Pe (by assumption)|go_keep)
  (first|(go_at_call 148;refine(HT.out _).mono ?_;rintro e w7 ⟨rfl,Ox⟩))
 have hS:RS w6 b s to w7:=by assumption
 have L7:=hid (Il hS)
 have H7:=hid (H6.out.below L7.out)
 have P7:=hid (P6.out.below L7.out)
 have Q7:=hid (Q6.out.below L7.out)
 have A7:=hid (A6.out.CP L7.out)
 have B7:=hid (BF B6.out L7.out)
 have qG:w2.heap.size<=w7.heap.size:=Nat.le_trans L6.out.size L7.out.size
 clear hS d0 d1
 go_wp2_with (first
  |(refine AB (r:=Af) rfl (.tmp 2) (.tmp 35) rfl rfl rfl P7.out ?_;intro w8 p8 l8 z8))
 refine BP rfl rfl p8 rfl ?_
 exact⟨BI B7.out l8 (by omega),HE.out,rfl,_,H7.out.beside l8 hne.symm⟩
theorem Zk (h:Reader w b s at_ deep) (hs:s.size<=900) {p:Piece} {to:Nat} (hto:to<=s.size) {er m t:Int} {n:Nat} (hT:EJ (s.data.toList.drop to)=(er,m,t,n)) (he:er=0) (hn:n=0)
    (hC: ∀w b,Reader w b s at_ deep->Calls Tryz.prog 147 #[.pointer (some ⟨b,0,none⟩)] w (Reads b s deep w (.ok p to))):
    Calls Tryz.prog 128 #[.pointer (some ⟨b,0,none⟩)] w (Reads b s deep w (.ok p to)):=by
 have hlt:=h.lt
 have H:=hid h
 have HC:=hid hC
 have h1:(to:Int)<=(s.size:Int):=by omega
 have HT:Hid (∀w,Calls Tryz.prog 148 #[.string (s.extract to s.size)] w fun e w'=>e= .returned (.tuple #[.int .i64 m,.int .i64 t,.int .i64 n,.int .i64 er])/\Below w.heap.size w w'):=by
  intro w
  have:=Ng (s.extract to s.size) (by rw[ByteArray.size_extract];omega) w
  rw[Kit.Aa,hT]at this
  exact this
 subst he hn
 clear h hC hT
 go_enter Tryz.func128,Tryz.ntmps128
 go_wp2_with (first|(refine AJ rfl rfl ?_;intro w1 b1 e1 p1 l1 z1))
 have hne:b1≠b:=by omega
 refine(HC.out _ _ (H.out.below l1)).mono ?_
 rintro e w2 ⟨b4,r,rfl,hr,hp⟩
 have B2:=hid b4
 have P2:=hid (Ad.beside p1 B2.out hne)
 have H2:=hid hr
 have A2:=hid hp
 have hz:=B2.out.size
 clear b4 hr hp
 go_wp2_with (first
  |(refine AJ rfl rfl ?_;intro w5 b2 e5 p5 l5 z5)
  |(refine AB (r:=r) rfl (.tmp 4) (.tmp 12) rfl rfl rfl p5 ?_;intro w6 p6 l6 z6;have L6:=hid (AY l5 l6 e5);have P6:=hid (P2.out.below L6.out);have H6:=hid (H2.out.below L6.out);have A6:=hid (A2.out.CP L6.out);have Q6:=hid p6))
 have kG:=H6.out.lt
 have d0:=H6.out.c0
 have d1:=H6.out.c1
 have B6:=hid ((Beside.of (b:=b) l1).trans (BF B2.out L6.out))
 clear p6
 go_region_held3 (fun w'=>w'.cell? ⟨b,0,none⟩=some (.string s)/\w'.cell? ⟨b,1,none⟩=some (.int .i64 to)/\Below w6.heap.size w6 w')
  (first|exact aa kG (by assumption) Ox|exact Mg H6.out|exact Pe (by assumption)|go_keep)
  (first|(go_at_call 148;refine(HT.out _).mono ?_;rintro e w7 ⟨rfl,Ox⟩))
 have hS:RS w6 b s to w7:=by assumption
 have L7:=hid (Il hS)
 have H7:=hid (H6.out.below L7.out)
 have P7:=hid (P6.out.below L7.out)
 have Q7:=hid (Q6.out.below L7.out)
 have A7:=hid (A6.out.CP L7.out)
 have B7:=hid (BF B6.out L7.out)
 have qG:w2.heap.size<=w7.heap.size:=Nat.le_trans L6.out.size L7.out.size
 clear hS d0 d1
 go_wp2_with (first
  |(refine AU rfl (.tmp 4) rfl rfl Q7.out ?_)
  |(refine AB (r:=r) rfl (.tmp 2) (.tmp 39) rfl rfl rfl P7.out ?_;intro w8 p8 l8 z8))
 refine BP rfl rfl p8 rfl ?_
 exact⟨BI B7.out l8 (by omega),_,rfl,H7.out.beside l8 hne.symm,(A7.out.Bg l8 (by omega)).Cs l1.size⟩
theorem kH (h:Reader w b s at_ deep) (hs:s.size<=900) {p:Piece} {to:Nat} (hto:to<=s.size) {er m t:Int} {n:Nat} (hT:EJ (s.data.toList.drop to)=(er,m,t,n)) (he:er=0) (hn:n≠0) (hn2:n<=900)
    (hC: ∀w b,Reader w b s at_ deep->Calls Tryz.prog 147 #[.pointer (some ⟨b,0,none⟩)] w (Reads b s deep w (.ok p to))):
    Calls Tryz.prog 128 #[.pointer (some ⟨b,0,none⟩)] w (Reads b s deep w (.ok (.mk 9 ⟨#[]⟩ [p] m t) (to+n))):=by
 have hlt:=h.lt
 have H:=hid h
 have HC:=hid hC
 have h1:(to:Int)<=(s.size:Int):=by omega
 have HT:Hid (∀w,Calls Tryz.prog 148 #[.string (s.extract to s.size)] w fun e w'=>e= .returned (.tuple #[.int .i64 m,.int .i64 t,.int .i64 n,.int .i64 er])/\Below w.heap.size w w'):=by
  intro w
  have:=Ng (s.extract to s.size) (by rw[ByteArray.size_extract];omega) w
  rw[Kit.Aa,hT]at this
  exact this
 subst he
 have tn:((n:Int)==0)=false:=by simpa using (by omega: ¬(n:Int)=0)
 have hw:wrap64 ((to:Int)+(n:Int))=((to+n:Nat):Int):=by unfold wrap64;omega
 clear h hC hT
 go_enter Tryz.func128,Tryz.ntmps128
 go_wp2_with (first|(refine AJ rfl rfl ?_;intro w1 b1 e1 p1 l1 z1))
 have hne:b1≠b:=by omega
 refine(HC.out _ _ (H.out.below l1)).mono ?_
 rintro e w2 ⟨b4,r,rfl,hr,hp⟩
 have B2:=hid b4
 have P2:=hid (Ad.beside p1 B2.out hne)
 have H2:=hid hr
 have A2:=hid hp
 have hz:=B2.out.size
 clear b4 hr hp
 go_wp2_with (first
  |(refine AJ rfl rfl ?_;intro w5 b2 e5 p5 l5 z5)
  |(refine AB (r:=r) rfl (.tmp 4) (.tmp 12) rfl rfl rfl p5 ?_;intro w6 p6 l6 z6;have L6:=hid (AY l5 l6 e5);have P6:=hid (P2.out.below L6.out);have H6:=hid (H2.out.below L6.out);have A6:=hid (A2.out.CP L6.out);have Q6:=hid p6))
 have kG:=H6.out.lt
 have d0:=H6.out.c0
 have d1:=H6.out.c1
 have B6:=hid ((Beside.of (b:=b) l1).trans (BF B2.out L6.out))
 clear p6
 go_region_held3 (fun w'=>w'.cell? ⟨b,0,none⟩=some (.string s)/\w'.cell? ⟨b,1,none⟩=some (.int .i64 to)/\Below w6.heap.size w6 w')
  (first|exact aa kG (by assumption) Ox|exact Mg H6.out|exact Pe (by assumption)|go_keep)
  (first|(go_at_call 148;refine(HT.out _).mono ?_;rintro e w7 ⟨rfl,Ox⟩))
 have hS:RS w6 b s to w7:=by assumption
 have L7:=hid (Il hS)
 have H7:=hid (H6.out.below L7.out)
 have P7:=hid (P6.out.below L7.out)
 have Q7:=hid (Q6.out.below L7.out)
 have A7:=hid (A6.out.CP L7.out)
 have B7:=hid (BF B6.out L7.out)
 have qG:w2.heap.size<=w7.heap.size:=Nat.le_trans L6.out.size L7.out.size
 clear hS d0 d1
 have k1:=H7.out.c1
 have g1:=H7.out.free 1
 have B8:Hid (Beside b w7 (w7.setCell ⟨b,1,none⟩ (.int .i64 ((to+n:Nat):Int)))):=BH _ _ _ _
 have H8:=hid (H7.out.NZ (to+n))
 have A8:=hid (A7.out.Bg B8.out (by omega))
 have xA:=B8.out.size
 go_wp2_with (first
  |(refine AU rfl (.tmp 4) rfl rfl (Q7.out.beside B8.out (by omega)) ?_)
  |(refine B_ rfl (.tmp 48) rfl (r:=r) rfl ?_;intro w9 b3 e9 r9 l9 z9;have P9:=hid ((P7.out.beside B8.out hne).below l9))
  |(refine AB (r:=⟨9,⟨#[]⟩,some ⟨b3,0,none⟩,1,1,m,t⟩) rfl (.tmp 2) (.tmp 52) rfl rfl rfl P9.out ?_;intro kI p10 l10 z10))
 refine BP rfl rfl p10 rfl ?_
 simp only[World.size_setCell]at e9 z9
 have hb3:b3<w9.heap.size:=by omega
 have Zl:b3≠b1:=by omega
 have hin:In w.heap.size kI.heap.size b3:=⟨by omega,by omega⟩
 refine⟨BI (BF (B7.out.trans B8.out) l9) l10 (by omega),_,rfl,(H8.out.below l9).beside l10 hne.symm,.mk _ _ _ _ _ _ _ [r] [p] kI.heap.size ?_ ?_ rfl ?_⟩
 ·have yf:Ea w9.heap.size kI (.slice (some ⟨b3,0,none⟩) 1 1) [r]:=EF r9 fun ad e _ q hq=>by
    cases e
    exact AO (l10.block _ (by rw[hq];exact hb3) (by rw[hq];exact Zl))
  rw[z10];exact yf
 ·intro ad e _
  cases e
  exact hin
 intro i i1 i2
 have i0:i=0:=by simp at i1;omega
 subst i0
 exact((A8.out.CP l9).Bg l10 (by omega)).Cs l1.size
theorem kJ {R:Nat->Nat->Option Dg} (hA:j_ R s at_ deep) (hs:s.size<=900): ∃g,Cj.part R s.data.toList at_ deep=some g/\GN s.data.toList (at_+1) g/\ ∀w b,Reader w b s at_ deep->Calls Tryz.prog 128 #[.pointer (some ⟨b,0,none⟩)] w (Reads b s deep w g):=by
 have hlen:s.data.toList.length=s.size:=(Lib.size_eq s).symm
 obtain⟨g,e,hf,hC⟩:=hA
 match g,hf,hC with
 | .bad q er,hf,hC=>exact⟨.bad q er,by unfold Cj.part;rw[e],hf,fun w b h=>kF h hC⟩
 | .ok p to,hf,hC=>
  have hto:=hf.2.1
  refine⟨often s.data.toList p to,by unfold Cj.part;rw[e],LA hf.1 hf.2.1 hf.2.2,fun w b h=> ?_⟩
  rw[XE _ _ hto]
  have hle:=dE (l:=s.data.toList.drop to)
  obtain⟨⟨er,m,t,n⟩,hT⟩: ∃r,EJ (s.data.toList.drop to)=r:=⟨_,rfl⟩
  rw[hT]at hle ⊢
  rw[List.length_drop]at hle
  simp only at hle ⊢
  by_cases he:er≠0
  ·rw[if_pos he];exact Zj h hs (by omega) hT he hC
  rw[if_neg he]
  have he0:er=0:=by simpa using he
  by_cases hn:n=0
  ·rw[if_pos hn];exact Zk h hs (by omega) hT he0 hn hC
  rw[if_neg hn];exact kH h hs (by omega) hT he0 hn (by have:=hle he0;omega) hC
end
end W14
end Go.Proofs.YtfgegjinhkgpbaaGreatDoor
