/-
  Texts joined, in build order, each with its own comment and its own conditions: W16Is, W17Of, W04CleanCode, W04Real, W04Code, W17Sets, W17New, W17Set, W17Make, W17Has, W17Reckon, W17Lives.
-/
import Derived.Test.YtfgegjinhkgpbaaGreatDoorJ14
import Derived.Test.YtfgegjinhkgpbaaGreatDoorJ18
import Derived.Test.YtfgegjinhkgpbaaGreatDoorJ03
import Derived.Test.YtfgegjinhkgpbaaGreatDoorJ04
import Derived.Deep.RegionHeld3
import Derived.Test.YtfgegjinhkgpbaaGreatDoorJ01
namespace Go.Proofs.YtfgegjinhkgpbaaGreatDoor
set_option maxHeartbeats 4000000
set_option maxRecDepth 100000
open Go.RowKit
open Lib (hid)
namespace Fg
open Strs Al
open Bv (AL Ca prog Ba)
open Cj (Piece size sizes Dg Whole)
open BR (Text yields)
open EH (Qc CZ BJ Gives Fails)
open W14 (Raw Ak Af Bp AJ AB AY)
open Kit (below_draws on)
def found (P:List AL) (s:ByteArray):Bool:= !(yields P s.data.toList 0 s.size).isEmpty
def kR (w:World) (er:Int) (e:Ending) (w':World):Prop:=er≠0/\Fails w er e w'
section
variable {p s:ByteArray} {w:World}
theorem pI {q:Nat} {er:Int} (hC: ∀w,Calls Tryz.prog 43 #[.string p] w (Bp w (.bad q er))):Calls Tryz.prog 22 #[.string p] w (kR w er):=by
 have HC:=hid hC
 clear hC
 go_enter Tryz.func22,Tryz.ntmps22
 go_wp2_with fail
 refine(HC.out _).mono ?_
 rintro e w1 ⟨l1,he,rfl⟩
 have te:(er !=0)=true:=by simpa using he
 have HE:=hid he
 have L1:=hid l1
 clear l1 he
 go_wp2_with (first
  |(refine AJ rfl rfl ?_;intro w3 b3 e3 p3 l3 z3)
  |(refine AB (r:=Af) rfl (.tmp 4) (.tmp 10) rfl rfl rfl p3 ?_;intro w4 p4 l4 z4;have L4:=hid (on L1.out (AY l3 l4 e3));clear e3 p3 l3 z3 p4 l4 z4))
 go_ret2
 exact⟨HE.out,rfl,L4.out⟩
theorem sw {P:Piece} {to:Nat} (hw:Whole P) (hz:size P<=4000) (hC: ∀w,Calls Tryz.prog 43 #[.string p] w (Bp w (.ok P to))) (w:World):Calls Tryz.prog 22 #[.string p] w (Gives w (prog P)):=by
 refine(EH.kQ (w:=w) (g:= .ok P to) hw hC).mono fun e w' h=> ?_
 have h2:(if size P<=4000 then Gives w (prog P) e w' else Fails w 21 e w'):=h
 rwa[if_pos hz]at h2
theorem kS {P:Piece} {to:Nat} (hw:Whole P) (hz: ¬size P<=4000) (hC: ∀w,Calls Tryz.prog 43 #[.string p] w (Bp w (.ok P to))) (w:World):Calls Tryz.prog 22 #[.string p] w (kR w 21):=by
 refine(EH.kQ (w:=w) (g:= .ok P to) hw hC).mono fun e w' h=> ?_
 have h2:(if size P<=4000 then Gives w (prog P) e w' else Fails w 21 e w'):=h
 rw[if_neg hz]at h2
 exact⟨by decide,h2⟩
theorem Rj {P:Piece} (hg:Bv.Good P) (hz:size P<=4000):(prog P).length=size P+1:=by
 unfold prog
 rw[List.length_append,Ba hg hz]
 rfl
end
/-! lives -/
end Fg
namespace Gg
open Strs Al
open Bv (AL prog)
open Cj (Piece size Dg Whole)
open EH (Gives Fails Ny)
open W14 (Bp)
def got (p:ByteArray):Dg:=match Cj.rows p.data.toList (p.data.toList.length+1) 0 0 with
 |some g=>Cj.fix p.data.toList 0 g
 |none=> .bad 0 3
def erG:Dg->Int
 | .bad _ e=>e
 | .ok P _=>if size P<=4000 then 0 else 21
def yu:Dg->List AL
 | .bad _ _=> []
 | .ok P _=>prog P
def er (p:ByteArray):Int:=erG (got p)
def ins (p:ByteArray):List AL:=yu (got p)
def Om (p:ByteArray) (w:World) (e:Ending) (w':World):Prop:=(er p=0/\Gives w (ins p) e w')\/(er p≠0/\Fails w (er p) e w')
section
variable {p:ByteArray} {w:World}
theorem Zn {g:Dg} (hg:Cj.rows p.data.toList (p.data.toList.length+1) 0 0=some g):got p=Cj.fix p.data.toList 0 g:=by
 unfold got;rw[hg]
theorem Nz (hs:p.size<=900):Ny (got p)/\ ∀w,Calls Tryz.prog 43 #[.string p] w (Bp w (got p)):=by
 obtain⟨g,hg,hf,hC⟩:=W14.Ff hs
 rw[Zn hg]
 exact⟨EH.Uc hf,hC⟩
theorem Po (hs:p.size<=900) (w:World):Calls Tryz.prog 22 #[.string p] w (Om p w):=by
 obtain⟨hw,hC⟩:=Nz hs
 unfold Om er ins
 generalize got p=G at*
 cases G with
 |bad q e=>exact(Fg.pI hC).mono fun _ _ h=>Or.inr h
 |ok P te=>
  by_cases hz:size P<=4000
  ·exact(Fg.sw hw hz hC w).mono fun _ _ h=>Or.inl ⟨if_pos hz,h⟩
  exact(Fg.kS hw hz hC w).mono fun _ _ h=>Or.inr (by
    show(if size P<=4000 then(0:Int)else 21)≠0/\Fails w (if size P<=4000 then(0:Int)else 21) _ _
    rw[if_neg hz];exact h)
theorem VX (hs:p.size<=900) (he:er p=0):(ins p).length<=4001:=by
 obtain⟨hw,-⟩:=Nz hs
 unfold er at he
 unfold ins
 generalize got p=G at*
 cases G with
 |bad q e=>exact Nat.zero_le _
 |ok P te=>
  by_cases hz:size P<=4000
  ·have:=Fg.Rj (Bv.Good.of_whole (show Whole P from hw)) hz
   show(prog P).length<=4001
   omega
  exact absurd he (by show(if size P<=4000 then(0:Int)else 21)≠0;rw[if_neg hz];decide)
end
end Gg
namespace Jj
open Go.Shelf Range Ki Strs
open Kit (Au AX BO CL Ae BM below_draws on)
attribute [local go_sem] Oper.semAt_some
theorem eO:(Tryz.prog.info? 5).map (fun i=>(i.zero,i.size,i.bytes))=some (some (.int .u8 0),1,1):=by kernel_rfl
theorem kX (s d:ByteArray) (hd:d.data.toList=clean s.data.toList) (hs:s.size<281474976710656) (w:World):Calls Tryz.prog 83 #[.string s] w fun e w'=>e= .returned (.string d)/\Below w.heap.size w w':=by
 obtain⟨i0,hi,hz0,hz1,hz2⟩:=info_parts eO
 have HP:=hid (gY s)
 have HD:=hid (Zq hd)
 clear hd
 refine(callsIn_wide (n:=9)).1 ?_
 refine callsIn_of_wp_marks Tryz.func83 rfl trivial ?_ rfl
 simp only[Tryz.ntmps83,List.size_toArray,List.length_cons,List.length_nil,Nat.reduceAdd,Nat.reduceSub,Array.replicate_succ,Array.replicate_zero,List.push_toArray,List.append_toArray,List.nil_append,List.cons_append]
 gi_wp2_with (gi_at_make;refine wpListIn_make_own _ rfl _ _ 53 rfl w.heap.size 5 i0 (.int .u8 0) 1 Tryz.underlying53 hi hz0 hz1 .i64 .i64 _ (s.size+1) rfl rfl (by go_num) (by rw[hz2];omega) (by unfold maxLen;omega) (Nat.le_refl _) ?_;intro w1 hown1 hgrow1)
 refine⟨trivial,?_⟩
 gi_at_call 117
 refine(callsIn_wide.2 (HP.out _)).mono ?_
 rintro e w2 ⟨rfl,rfl⟩
 gi_wp2
 have hlt:w.heap.size<w1.heap.size:=(hown1.lt w.heap.size rfl).2
 have x0:=Boxed.new w1 53 (.slice (some ⟨w.heap.size,0,none⟩) 0 (s.size+1))
 have x1:=Boxed.new (w1.alloc (.cells #[.slice (some ⟨w.heap.size,0,none⟩) 0 (s.size+1)] 53)) 9 (.string s)
 rw[World.size_alloc]at x1
 replace x0:=x0.alloc (.cells #[.string s] 9)
 have hb:Below w.heap.size w ((w1.alloc (.cells #[.slice (some ⟨w.heap.size,0,none⟩) 0 (s.size+1)] 53)).alloc (.cells #[.string s] 9)):=((((Below.refl _ w).grown hgrow1 (Nat.le_refl _) (fun r e=>by cases e)).alloc (by omega) _).alloc (by simp;omega) _)
 have hbuf:Buf w1 w.heap.size w.heap.size (s.size+1) ⟨#[]⟩:=hown1
 have hU:Buf ((w1.alloc (.cells #[.slice (some ⟨w.heap.size,0,none⟩) 0 (s.size+1)] 53)).alloc (.cells #[.string s] 9)) w.heap.size w.heap.size (s.size+1) ⟨#[]⟩:=M_ hbuf ((AP.alloc (fun _=>False) _ _).trans (AP.alloc _ _ _)) id
 have hsz:((w1.alloc (.cells #[.slice (some ⟨w.heap.size,0,none⟩) 0 (s.size+1)] 53)).alloc (.cells #[.string s] 9)).heap.size=w1.heap.size+2:=by simp
 generalize (w1.alloc (.cells #[.slice (some ⟨w.heap.size,0,none⟩) 0 (s.size+1)] 53)).alloc (.cells #[.string s] 9)=U at*
 generalize w1.heap.size=B at*
 clear hown1 hgrow1 hbuf
 refine QF (gf:=142) (lb:= #[.pointer (some ⟨B+1,0,none⟩)]) rfl (enters_of Tryz.func142 (by kernel_rfl) rfl)
  (bV (B+1) s (by omega) U x1.cell (by omega)) (fun k hk=>hk.elim) rfl
  (fun k=>B+2<=k/\k<B+10) (fun k=>by unfold Its;rw[hsz];simp)
  (fun pre W=> ∃q:ByteArray,Hid (q.data.toList=FN pre)/\Boxed W B 53 (.slice (some ⟨w.heap.size,0,none⟩) q.size (s.size+1))/\Buf W w.heap.size w.heap.size (s.size+1) q/\Below w.heap.size w W)
  (fun _ _ _=>False)
  (by
   rintro pre X Y ⟨q,h0,h1,h2,h3⟩ ht
   exact⟨q,h0,ht.keeps h1 (by omega),M_ h2 ht (by omega),h3.trans (ht.below (by intro k hk;omega) h3.size)⟩)
  (fun _ _ _ _ h _=>h)
  ⟨⟨#[]⟩,rfl,x0,hU,hb⟩
  (fun x=> {tmps:= #[.string s,undef,.string ⟨#[]⟩,.pointer (some ⟨B,0,none⟩),.string x,.string s,.int .i64 s.size,.int .i64 (s.size+1),.slice (some ⟨w.heap.size,0,none⟩) 0 (s.size+1),.string s,.func (.func 142) #[] #[.pointer (some ⟨B+1,0,none⟩)],.string x,undef,undef,undef,undef,undef,undef,undef,undef,undef,undef,undef,undef,undef,undef,undef,undef,undef,undef],defers:= []}) ?assign ?body ?done ?stop
 case assign=>
  intro l x W K hK
  gi_wp2
  exact hK
 case body=>
  rintro l pre x W ⟨q,hq,hv,hbuf,hB⟩ hW hpre
  have hc:=hv.cell
  have hf:=hv.frozen
  have hmx:Tryz.prog.follows .mixedOrders=true:=by kernel_rfl
  cases hp:(x.toList== [46,46])with
  |true=>
   have hpe:=beq_iff_eq.1 hp
   have hdd:x.data.toList= [46,46]:=by rw[<-Lib.toList_data];exact hpe
   obtain⟨t,ht⟩:=hpre
   have hq2:Hid ((q.extract 0 (max 0 (lastSlash q.data.toList)).toNat).data.toList=FN (pre++ [x])):=by
    show _=_
    rw[Zp (s:=s) ⟨[x]++t,by rw[<-List.append_assoc];exact ht⟩ hdd,Kit.Br,hq.out]
   have hls:=pJ q.data.toList
   rw[<-Lib.size_eq]at hls
   have hcap:=Xu hbuf
   have mQ:=hid (fun(W':World) (h:Buf W' w.heap.size w.heap.size (s.size+1) q)=>Zo w.heap.size q.size (s.size+1) w.heap.size q rfl hcap.1 hcap.2 W' h)
   obtain⟨z,hz⟩: ∃z,lastSlash q.data.toList=z:=⟨_,rfl⟩
   rw[hz]at hls mQ hq2
   have hsz2:(q.extract 0 (max 0 z).toNat).size=(max 0 z).toNat:=by rw[ByteArray.size_extract];omega
   have FIN:Hid (∀n:Nat,AP (fun k=> ¬(B+2<=k/\k<B+10)) W ((W.drewN n).setCell ⟨B,0,none⟩ (.slice (some ⟨w.heap.size,0,none⟩) (max 0 z).toNat (s.size+1)))/\
       ∃q:ByteArray,Hid (q.data.toList=FN (pre++ [x]))/\Boxed ((W.drewN n).setCell ⟨B,0,none⟩ (.slice (some ⟨w.heap.size,0,none⟩) (max 0 z).toNat (s.size+1))) B 53 (.slice (some ⟨w.heap.size,0,none⟩) q.size (s.size+1))/\Buf ((W.drewN n).setCell ⟨B,0,none⟩ (.slice (some ⟨w.heap.size,0,none⟩) (max 0 z).toNat (s.size+1))) w.heap.size w.heap.size (s.size+1) q/\Below w.heap.size w ((W.drewN n).setCell ⟨B,0,none⟩ (.slice (some ⟨w.heap.size,0,none⟩) (max 0 z).toNat (s.size+1)))):=by
    show∀n:Nat,_
    intro n
    have t1:AP (fun k=>k=B) W ((W.drewN n).setCell ⟨B,0,none⟩ (.slice (some ⟨w.heap.size,0,none⟩) (max 0 z).toNat (s.size+1))):=(AP.draw _ W n).trans (AP.setCell _ rfl)
    refine⟨t1.wider (by intro k hk;omega),_,hq2,?_,M_ (pM hbuf (by omega)) t1 (by omega),hB.trans (t1.below (by intro k hk;omega) hB.size)⟩
    rw[hsz2]
    exact Boxed.set (W:=W.drewN n) _ hv
   have h24:Fence.wide.fn 118:=trivial
   gi_wp2
   gi_region_with_o (first|(refine⟨trivial,?_⟩;gi_at_call 118;refine(CallsIn.inRound l (callsIn_wide.2 (mQ.out W.drew hbuf))).mono ?_;rintro e w' ⟨rfl,m,rfl⟩)|(gi_at_call 118;refine(CallsIn.inRound l (callsIn_wide.2 (mQ.out W.drew hbuf))).mono ?_;rintro e w' ⟨rfl,m,rfl⟩))
   all_goals gi_wp2
   all_goals first
    |exact FIN.out _
    |(exfalso;omega)
  |false=>
   have hne:x.data.toList≠ [46,46]:=by rw[<-Lib.toList_data];intro e;rw[e]at hp;simp at hp
   have hroom:q.size+(x.size+1)<=s.size+1:=by have:=kU hpre;rw[<-hq.out,<-Lib.size_eq]at this;exact this
   have hq2:Hid ((q++⟨#[47]⟩++x).data.toList=FN (pre++ [x])):=by
    show _=_
    rw[kT hne,<-hq.out,Kit.CF,Kit.CF,List.append_assoc];rfl
   have hrow:W.ownsRow w.heap.size 5 1 (.slice (some ⟨w.heap.size,0,none⟩) q.size (s.size+1)) q.size (Lib.strCells q):=hbuf
   clear hne hpre
   gi_wp2_with (first
    |(gi_at_builtin;refine wpListIn_append_fits _ rfl _ _ 53 rfl w.heap.size 5 i0 1 Tryz.underlying53 hi hz1 w.heap.size q.size (s.size+1) (Lib.strCells q) rfl (hrow.alloc _) ⟨W.heap.size,0,none⟩ 1 1 [.int .u8 47] rfl rfl (cell_one_new _ _ _) (by simp[Value.oneCell']) (by omega) ?_;intro w3 hown3 hgrow3;obtain⟨hv1,hv2,ht2,ht3⟩:=Rl (g:=w.heap.size) (.slice (some ⟨w.heap.size,0,none⟩) (q.size+1) (s.size+1)) hv (AP.alloc _ _ _) hgrow3 (by omega);have hc1:=hv1.cell;have hf1:=hv1.frozen;have hc2:=hv2.cell;have hf2:=hv2.frozen)
    |(gi_at_builtin;refine Rk _ rfl _ _ 53 9 rfl w.heap.size 5 i0 Tryz.underlying53 Tryz.underlying9 hi hz1 (some ⟨w.heap.size,0,none⟩) (q.size+1) (s.size+1) _ rfl (ht3.qi hown3 (by omega)) x rfl (by omega) (by omega) ?_;intro w5 hown5 tC;obtain⟨hv3,hv4,oC,ht5⟩:=Rl (g:=w.heap.size) (.slice (some ⟨w.heap.size,0,none⟩) (q.size+1+x.size) (s.size+1)) hv2 (AP.refl _ _) tC (by omega);have hc3:=hv3.cell;have hf3:=hv3.frozen))
   have e1:q.size+1+x.size=(q++⟨#[47]⟩++x).size:=by rw[ByteArray.size_append,ByteArray.size_append];rfl
   have hb5:Buf (w5.setCell ⟨B,0,none⟩ (.slice (some ⟨w.heap.size,0,none⟩) (q.size+1+x.size) (s.size+1))) w.heap.size w.heap.size (s.size+1) (q++⟨#[47]⟩++x):=by
    refine M_ (kV hown5 e1 ?_) ht5 (by omega)
    rw[Zr];rfl
   have ht:=ht2.trans oC
   exact⟨ht.wider (by intro k hk;omega),_,hq2,by rw[<-e1];exact hv4,hb5,hB.trans (ht.below (by intro k hk;omega) hB.size)⟩
 case done=>
  rintro W ⟨q,hq,hv,hbuf,hB⟩ hK
  have hc:=hv.cell
  have hcap:=Xu hbuf
  have hsz2:q.size=(FN (partsOf s)).length:=by rw[Lib.size_eq,hq.out]
  have HB2:Hid (Below w.heap.size w (W.putObj U.heap.size (.deferred none))):=hB.trans ((AP.putObj (T:=fun k=>B+2<=k) _ (by omega)).below (by intro k hk;omega) hB.size)
  rcases HD.out with⟨h1,h2⟩|⟨h1,h2⟩
  ·have h0:q.size=0:=by rw[hsz2,h1];rfl
   rw[h0]at hc
   clear HD h1 hsz2 hq
   gi_wp2
   refine⟨by simp,.inl ⟨_,_,rfl,run_takeDeferred hK,?_⟩⟩
   refine⟨_,results_tmp rfl _ _ _,?_,HB2.out⟩
   exact Au h2.symm
  have h0:0<q.size:=by
    rw[hsz2]
    exact List.length_pos_iff.2 h1
  have hcv:=kW hbuf
  have t0:((q.size:Int)==0)=false:=by
   cases e:((q.size:Int)==0)with
   |false=>rfl
   |true=>have:=beq_iff_eq.1 e;omega
  have he:Hid (q=d):=BM (by rw[h2];exact hq.out)
  clear HD h1 h2 hsz2 hq h0
  gi_wp2
  refine⟨by simp,.inl ⟨_,_,rfl,run_takeDeferred hK,?_⟩⟩
  refine⟨_,results_tmp rfl _ _ _,?_,HB2.out⟩
  exact Au he.out
 case stop=>
  rintro c pre W _ h _
  exact h.elim
end Jj
namespace Jj
open Ki
open uD (check)
open Kit (Ae CL BM Br Aa CF)
theorem Ug {L:List Bytes} (h:L≠ []):text L=flat L:=by unfold text;rw[if_neg h];rfl
theorem kY {L:List Bytes} (h:L≠ []):0<(flat L).length:=by
 cases L with
 |nil=>exact absurd rfl h
 |cons p q=>unfold flat;rw[List.flatMap_cons];simp
theorem eP {o:List Bytes} {p:Bytes} (hp:(47:UInt8)∉p):lastSlash (flat (o++ [p]))=((flat o).length:Int):=by
 refine last_at ?_ ?_ ?_
 ·rw[Ef];simp
 ·rw[Ef,List.getD_eq_getElem?_getD,List.getElem?_append_right (Nat.le_refl _)];simp
 rw[Ef,List.drop_append,List.drop_of_length_le (Nat.le_succ _)];simpa using hp
theorem eQ (l:Bytes):(clean l).drop (lastSlash (clean l)+1).toNat=base l:=by
 have hp:=fun p hm=>(MF l p hm).1
 unfold base
 rw[OZ]at hp ⊢
 show(text (DD (parts l))).drop (lastSlash (text (DD (parts l)))+1).toNat=_
 generalize DD (parts l)=L at*
 rcases List.eq_nil_or_concat L with rfl|⟨o,p,rfl⟩
 ·rfl
 rw[List.concat_eq_append]at*
 have h1:=(hp p (by simp)).1
 rw[Ug (by simp),eP h1,Ef,show(((flat o).length:Int)+1).toNat=(flat o).length+1 by omega]
 rw[List.drop_append,List.drop_of_length_le (Nat.le_succ _)]
 simp
theorem eT (l:Bytes):1<=(clean l).length:=by
 unfold clean
 by_cases h:DD (parts l)= []
 ·rw[h];exact Nat.le_refl _
 rw[Ug h];exact kY h
theorem pO {l:Bytes} (h:1<=l.length): -1<=lastSlash l/\lastSlash l+1<=l.length:=by unfold lastSlash;split<;>omega
end Jj
namespace Jj
open Strs Ki
open Kit (Au AX BO CL Ae BM below_draws on Br Aa CF CX Bh Ap Bl Az Bb)
theorem pQ (s d:ByteArray) (hd:d.data.toList=base s.data.toList) (hs:s.size<281474976710656) (w:World):Calls Tryz.prog 52 #[.string s] w fun e w'=>e= .returned (.string d)/\Below w.heap.size w w':=by
 obtain⟨c,hc⟩:=nI (clean s.data.toList)
 have hcs:=QK hc
 have HC:=hid (kX s c hc (by omega))
 have HL:=hid (Xq c (by omega))
 have hls:=pO (eT s.data.toList)
 rw[<-hc,<-Lib.size_eq]at hls
 have HE:Hid (c.extract (lastSlash c.data.toList+1).toNat c.size=d):=by
  show _=_
  apply BM
  rw[Aa,hd,hc];exact eQ _
 clear hd hc
 generalize lastSlash c.data.toList=z at*
 go_enter Tryz.func52,Tryz.ntmps52
 go_wp2_with fail
 refine(HC.out _).mono ?_
 rintro e w1 ⟨rfl,hb⟩
 go_wp2_with fail
 refine(HL.out _).mono ?_
 rintro e w2 ⟨rfl,rfl⟩
 go_wp2_with fail
 go_ret
 exact⟨Au HE.out,hb⟩
end Jj
namespace Gg
open Go.Shelf Strs Al
open Bv (AL)
open BR (yields)
open EH (Qc CZ BJ Gives Fails)
open Kit (below_draws on AX)
def base (s:ByteArray):ByteArray:=⟨(Ki.base s.data.toList).toArray⟩
def N_ (L:List AL) (s:ByteArray):Bool:=(yields L (base s).data.toList 0 0).any fun y=>decide (y.2=(base s).size)
def Dq (L:List AL) (s:ByteArray):Bool:=Fg.found L s
def DL (s:ByteArray):ByteArray:=⟨#[47]⟩++s
def Da (p:ByteArray):Bool:=p.data.toList.contains 47
def asked (begins:Bool) (p:ByteArray):ByteArray:=if begins then⟨#[94,40]⟩++p++⟨#[41]⟩else if Da p then⟨#[40]⟩++p++⟨#[41,40,47,124,36,41]⟩else p
def ask (begins:Bool) (p s:ByteArray):Bool:=if begins then Dq (ins (asked begins p)) s else if Da p then Dq (ins (asked begins p)) (DL s)else N_ (ins p) s
abbrev KC:=Nat->Prop
def JP (F:KC) (w:World) (f:Value) (h:ByteArray->Bool):Prop:=
 (∀k,F k->k<w.heap.size)/\ ∃g lb,f= .func (.func g) #[] lb/\(∀args w',(callFunc g args).run Tryz.prog w'= .ok (.enter g args) w')/\
  ∀w',(∀k,F k->w'.heap[k]? =w.heap[k]?)->w.heap.size<=w'.heap.size-> ∀s:ByteArray,s.size<=1000->Calls Tryz.prog g (#[.string s]++lb) w' fun e w''=>e= .returned (.bool (h s))/\Below w'.heap.size w' w''
section
variable {F G:KC} {w w':World} {b:Nat} {v f:Value} {L:List AL} {s p:ByteArray} {h:ByteArray->Bool}
theorem JP.same (a:JP F w f h) (hk: ∀k,F k->w'.heap[k]? =w.heap[k]?) (hs:w.heap.size<=w'.heap.size):JP F w' f h:=by
 obtain⟨h1,g,lb,e,en,hc⟩:=a
 exact⟨fun k q=>Nat.lt_of_lt_of_le (h1 k q) hs,g,lb,e,en,fun w2 h2 h3=>hc w2 (fun k q=>(h2 k q).trans (hk k q)) (Nat.le_trans hs h3)⟩
theorem JP.below (a:JP F w f h) (hb:Below w.heap.size w w'):JP F w' f h:=a.same (fun k q=>hb.block k (a.1 k q)) hb.size
theorem JP.wider (a:JP F w f h) (hG: ∀k,G k->k<w.heap.size) (hs: ∀k,F k->G k):JP G w f h:=by
 obtain⟨-,g,lb,e,en,hc⟩:=a
 exact⟨hG,g,lb,e,en,fun w2 h2 h3=>hc w2 (fun k q=>h2 k (hs k q)) h3⟩
structure Kq (F:KC) (w:World) (b:Nat) (v:Value) (L:List AL):Prop where
 cell:w.cell? ⟨b,0,none⟩=some v
 box:F b
 row: ∀A n c,v= .slice (some A) n c->F A.block
 low: ∀k,F k->k<w.heap.size
 xG:Qc w.heap.size w v L
theorem Kq.same (h:Kq F w b v L) (hk: ∀k,F k->w'.heap[k]? =w.heap[k]?) (hs:w.heap.size<=w'.heap.size):Kq F w' b v L:=by
 refine⟨(World.cell?_of_block (hk b h.box)).trans h.cell,h.box,h.row,fun k q=>Nat.lt_of_lt_of_le (h.low k q) hs,?_⟩
 obtain⟨A,c,e,h1,h2,h3⟩:=h.xG
 refine⟨A,c,e,h1,h2,fun hn=> ?_⟩
 obtain⟨ad,e2,hb,hc⟩:=h3 hn
 exact⟨ad,e2,Nat.lt_of_lt_of_le hb hs,fun k hk2 j hj=>(World.cell?_of_block (by rw[block_add];exact hk _ (h.row ad L.length c (by rw[e,e2])))).trans (hc k hk2 j hj)⟩
theorem Rm (s:Ki.Bytes):(Ki.base s).length<=s.length+4:=by
 have h3:=Ki.Hu (Ki.clean s)
 have h4:=Ki.Tq s
 unfold Ki.base
 rw[List.getLastD_eq_getLast?,List.getLast?_eq_getElem?,<-List.getD_eq_getElem?_getD]
 by_cases h:(Ki.parts (Ki.clean s)).length-1<(Ki.parts (Ki.clean s)).length
 ·have:=Jj.QJ h;omega
 have e:Ki.parts (Ki.clean s)= []:=List.length_eq_zero_iff.1 (by omega)
 rw[e];simp
theorem eU (h:s.size<=1000):(base s).size<=1004:=by
 have h1:=Rm s.data.toList
 rw[Lib.size_eq]
 show(Ki.base s.data.toList).length<=1004
 rw[Lib.size_eq]at h
 omega
theorem bH {w1 w2:World} (h:w1.cell? ⟨b,0,none⟩=some v/\Below w.heap.size w w1) (hb:Below w1.heap.size w1 w2):w2.cell? ⟨b,0,none⟩=some v/\Below w.heap.size w w2:=⟨(hb.cell (World.block_lt_of_cell? w1 _ h.1)).trans h.1,on h.2 hb⟩
theorem eX {w1:World} (h:w1.cell? ⟨b,0,none⟩=some v/\Below w.heap.size w w1):w1.drew.cell? ⟨b,0,none⟩=some v/\Below w.heap.size w w1.drew:=⟨h.1,on h.2 (below_draws w1 1)⟩
/-! the functions that are kept -/
theorem eY (h:Kq F w b v L) (hn:L.length<=4001) (hs:s.size<=1000):Calls Tryz.prog 50 #[.string s,.pointer (some ⟨b,0,none⟩)] w fun e w'=>e= .returned (.bool (N_ L s))/\Below w.heap.size w w':=by
 have c0:=h.cell
 have hp:=h.xG
 have HB:=hid (fun w=>Jj.pQ s (base s) rfl (by omega) w)
 have HW:Hid (∀w',Below w.heap.size w w'->Calls Tryz.prog 51 #[v,.string (base s)] w' fun e w''=>e= .returned (.bool (N_ L s))/\Below w'.heap.size w' w''):=fun w' hb=>
  Fg.df ((hp.below hb).more hb.size) (by omega) (by have:=eU hs;omega)
 obtain⟨R,hR⟩: ∃R,N_ L s=R:=⟨_,rfl⟩
 rw[hR]at HW ⊢
 obtain⟨d,hd⟩: ∃d,base s=d:=⟨_,rfl⟩
 rw[hd]at HB HW
 obtain⟨A,c,rfl,-,-⟩:=hp.form
 clear hp hR hd hn hs h
 go_enter Tryz.func50,Tryz.ntmps50
 go_wp2_with fail
 go_region_held3 (fun w'=>w'.cell? ⟨b,0,none⟩=some (.slice A L.length c)/\Below w.heap.size w w')
  (first|exact bH (by assumption) hb3|exact bH (by assumption) hb2|exact⟨c0,below_draws w 1⟩|exact eX (by assumption)|go_keep)
  (first
   |(go_at_call 52;refine(HB.out _).mono ?_;rintro e x2 ⟨rfl,hb2⟩)
   |(go_at_call 51;refine(HW.out _ (And.right (by assumption))).mono ?_;rintro e x3 ⟨rfl,hb3⟩))
 obtain⟨-,hbb⟩:=(by assumption:x3.cell? ⟨b,0,none⟩=some (.slice A L.length c)/\Below w.heap.size w x3)
 go_wp2_with fail
 go_ret
 exact⟨rfl,hbb⟩
theorem Zt (h:Kq F w b v L) (hn:L.length<=4001) (hs:s.size<=1000):Calls Tryz.prog 53 #[.string s,.pointer (some ⟨b,0,none⟩)] w fun e w'=>e= .returned (.bool (Dq L (DL s)))/\Below w.heap.size w w':=by
 have c0:=h.cell
 have hp:=h.xG
 have hz:(⟨#[47]⟩++s:ByteArray).size=s.size+1:=by rw[ByteArray.size_append];show 1+s.size=_;omega
 have HW:Hid (Calls Tryz.prog 54 #[v,.string (⟨#[47]⟩++s)] w fun e w''=>e= .returned (.bool (Dq L (DL s)))/\Below w.heap.size w w''):=
  Fg.RX (s:=DL s) hp (by omega) (by show(⟨#[47]⟩++s:ByteArray).size<=_;omega)
 have yw: ∀w:World,(Op.stringOp .add ⟨#[47]⟩ s).run Tryz.prog w= .ok (.string (⟨#[47]⟩++s)) w:=fun w=>run_string_add_sum w _ _ (by show 1+s.size<=_;omega)
 obtain⟨R,hR⟩: ∃R,Dq L (DL s)=R:=⟨_,rfl⟩
 rw[hR]at HW ⊢
 obtain⟨A,c,rfl,-,-⟩:=hp.form
 clear hp hR hn hs h hz
 go_enter Tryz.func53,Tryz.ntmps53
 go_wp2_with fail
 refine HW.out.mono ?_
 rintro e w1 ⟨rfl,hb⟩
 go_wp2_with fail
 go_ret
 exact⟨rfl,hb⟩
theorem Zu (h:Kq F w b v L) (hn:L.length<=4001) (hs:s.size<=1000):Calls Tryz.prog 55 #[.string s,.pointer (some ⟨b,0,none⟩)] w fun e w'=>e= .returned (.bool (Dq L s))/\Below w.heap.size w w':=by
 have c0:=h.cell
 have hp:=h.xG
 have HW:Hid (Calls Tryz.prog 54 #[v,.string s] w fun e w''=>e= .returned (.bool (Dq L s))/\Below w.heap.size w w''):=Fg.RX hp (by omega) (by omega)
 obtain⟨R,hR⟩: ∃R,Dq L s=R:=⟨_,rfl⟩
 rw[hR]at HW ⊢
 obtain⟨A,c,rfl,-,-⟩:=hp.form
 clear hp hR hn hs h
 go_enter Tryz.func55,Tryz.ntmps55
 go_wp2_with fail
 refine HW.out.mono ?_
 rintro e w1 ⟨rfl,hb⟩
 go_wp2_with fail
 go_ret
 exact⟨rfl,hb⟩
end
def Two (b:Nat) (v:Value) (k:Nat):Prop:=k=b\/ ∃A n c,v= .slice (some A) n c/\k=A.block
section
variable {F:KC} {w:World} {b:Nat} {v:Value} {L:List AL}
theorem OA {base0:Nat} (h:w.ownsRow base0 106 4 v L.length (L.flatMap CZ)) (t:TypeId):Kq (Two w.heap.size v) (w.alloc (.cells #[v] t)) w.heap.size v L:=by
 have hp:=Al.Bw BJ rfl h
 refine⟨(Boxed.new w t v).cell,Or.inl rfl,fun A n c e=>Or.inr ⟨A,n,c,e,rfl⟩,fun k hk=> ?_,(hp.alloc (Nat.le_refl _) _).more (by rw[World.size_alloc];omega)⟩
 rw[World.size_alloc]
 rcases hk with rfl|⟨A,n,c,e,rfl⟩
 ·omega
 have:=h.lt A.block (by rw[e];rfl)
 omega
theorem Zv (h:Kq F w b v L) (hn:L.length<=4001):JP F w (.func (.func 50) #[] #[.pointer (some ⟨b,0,none⟩)]) (N_ L):=
 ⟨h.low,_,_,rfl,enters_of Tryz.func50 (by kernel_rfl) rfl,fun _ hk hs _ hz=>eY (h.same hk hs) hn hz⟩
theorem Xv (h:Kq F w b v L) (hn:L.length<=4001):JP F w (.func (.func 53) #[] #[.pointer (some ⟨b,0,none⟩)]) (fun s=>Dq L (DL s)):=
 ⟨h.low,_,_,rfl,enters_of Tryz.func53 (by kernel_rfl) rfl,fun _ hk hs _ hz=>Zt (h.same hk hs) hn hz⟩
theorem Xw (h:Kq F w b v L) (hn:L.length<=4001):JP F w (.func (.func 55) #[] #[.pointer (some ⟨b,0,none⟩)]) (Dq L):=
 ⟨h.low,_,_,rfl,enters_of Tryz.func55 (by kernel_rfl) rfl,fun _ hk hs _ hz=>Zu (h.same hk hs) hn hz⟩
end
end Gg
namespace Gg
open Go.Shelf Strs Al
open Bv (AL)
open EH (Qc CZ BJ Gives Fails)
open Kit (below_draws on AX)
def Xx (lo:Nat) (x:Int) (h:ByteArray->Bool) (w:World) (e:Ending) (w':World):Prop:=
 Below w.heap.size w w'/\((x=0/\ ∃F f,e= .returned (.tuple #[f,.int .i64 0])/\JP F w' f h/\ ∀k,F k->lo<=k)\/(x≠0/\e= .returned (.tuple #[.nilFunc,.int .i64 x])))
def NA (begins:Bool) (p:ByteArray):Int:=er (asked begins p)
section
variable {w:World} {lo:Nat} {p:ByteArray} {v:Value}
theorem VY {b:Nat} {v:Value} {lo:Nat} (hb:lo<=b) (h: ∀k,v.ownBlock=some k->lo<=k): ∀k,Two b v k->lo<=k:=by
 rintro k (rfl|⟨A,n,c,e,rfl⟩)
 ·exact hb
 exact h _ (by rw[e];rfl)
theorem Zw (hp:p.size<=800) (hlo:lo<=w.heap.size):Calls Tryz.prog 31 #[.string p,v] w (Xx lo (NA true p) (ask true p) w):=by
 obtain⟨q,hq⟩: ∃q,(⟨#[94,40]⟩++p++⟨#[41]⟩:ByteArray)=q:=⟨_,rfl⟩
 have ha:asked true p=q:=hq
 have hz:(⟨#[94,40]⟩++p:ByteArray).size=p.size+2:=by rw[ByteArray.size_append];show 2+p.size=_;omega
 have hqz:q.size<=900:=by rw[<-hq,ByteArray.size_append,hz];show p.size+2+1<=_;omega
 have HO:=hid (Po (p:=q) hqz)
 have HL:=hid (VX (p:=q) hqz)
 have HR1: ∀w:World,(Op.stringOp .add ⟨#[94,40]⟩ p).run Tryz.prog w= .ok (.string (⟨#[94,40]⟩++p)) w:=fun w=>run_string_add_sum w _ _ (by show 2+p.size<=_;omega)
 have HR2: ∀w:World,(Op.stringOp .add (⟨#[94,40]⟩++p) ⟨#[41]⟩).run Tryz.prog w= .ok (.string q) w:=fun w=>by rw[run_string_add_sum w _ _ (by rw[hz];show p.size+2+1<=_;omega),hq]
 have HH:Hid (ask true p=Dq (ins q)):=by unfold Hid ask;rw[ha];rfl
 have eZ:=hid hlo
 unfold NA
 rw[HH.out,ha]
 unfold Om at HO
 obtain⟨E,hE⟩: ∃E,er q=E:=⟨_,rfl⟩
 obtain⟨I,hI⟩: ∃I,ins q=I:=⟨_,rfl⟩
 rw[hE,hI]at HO HL
 rw[hE,hI]
 clear hE hI hq ha hz hqz hp hlo HH
 unfold Xx
 by_cases he:E=0
 ·subst he
  go_enter Tryz.func31,Tryz.ntmps31
  go_wp2_with fail
  refine(HO.out _).mono ?_
  rintro e w1 (⟨-,v1,rfl,o1,l1⟩|⟨h,-⟩)
  ·have K1:=hid (OA o1 46)
   have R1:=hid (fun k h=>Nat.le_trans eZ.out (o1.lt k h).1)
   obtain⟨A,c,rfl,-,-⟩:=(Al.Bw BJ rfl o1).form
   have L1:=hid l1
   clear o1 l1
   go_wp2_with fail
   go_ret2
   exact⟨on L1.out (W14.AZ _ _),Or.inl ⟨trivial,_,_,rfl,Xw K1.out (HL.out trivial),VY (Nat.le_trans eZ.out L1.out.size) R1.out⟩⟩
  exact absurd rfl h
 have te:(E !=0)=true:=by simpa using he
 go_enter Tryz.func31,Tryz.ntmps31
 go_wp2_with fail
 refine(HO.out _).mono ?_
 rintro e w1 (⟨h,-⟩|⟨-,rfl,l1⟩)
 ·exact absurd h he
 go_wp2_with fail
 go_ret2
 exact⟨on l1 (W14.AZ _ _),Or.inr ⟨he,rfl⟩⟩
theorem PK (hlo:lo<=w.heap.size) (hs:Da p=false) (ho:w.ownsRow lo 106 4 v (ins p).length ((ins p).flatMap CZ)) (hl:(ins p).length<=4001):Calls Tryz.prog 30 #[.string p,v] w (Xx lo 0 (ask false p) w):=by
 have HC:Hid (∀w,Calls Tryz.prog 49 #[.string p,.string ⟨#[47]⟩] w fun e w'=>e= .returned (.bool false)/\w'=w):=fun w=>by
  have h:=Tryz.strings_Contains_one p 47 w
  rwa[<-Lib.contains_iff_indexByte,show p.data.toList.contains 47=false from hs]at h
 have HH:Hid (ask false p=N_ (ins p)):=by
  unfold Hid ask
  funext s
  rw[if_neg (by decide),hs,if_neg (by decide)]
 have K1:=hid (OA ho 46)
 have R1:=hid (fun k h=>(ho.lt k h).1)
 obtain⟨A,c,rfl,-,-⟩:=(Al.Bw BJ rfl ho).form
 have HL:=hid hl
 have eZ:=hid hlo
 rw[HH.out]
 clear ho hl hlo hs HH
 unfold Xx
 go_enter Tryz.func30,Tryz.ntmps30
 go_wp2_with fail
 refine(HC.out _).mono ?_
 rintro e w1 ⟨rfl,rfl⟩
 go_wp2_with fail
 go_ret2
 exact⟨W14.AZ _ _,Or.inl ⟨trivial,_,_,rfl,Zv K1.out HL.out,VY eZ.out R1.out⟩⟩
theorem PL (hp:p.size<=800) (hlo:lo<=w.heap.size) (hs:Da p=true) (hv: ∃A n c,v= .slice A n c):Calls Tryz.prog 30 #[.string p,v] w (Xx lo (NA false p) (ask false p) w):=by
 obtain⟨q,hq⟩: ∃q,(⟨#[40]⟩++p++⟨#[41,40,47,124,36,41]⟩:ByteArray)=q:=⟨_,rfl⟩
 have ha:asked false p=q:=by
  unfold asked
  rw[if_neg (by decide),hs,if_pos rfl,hq]
 have hz:(⟨#[40]⟩++p:ByteArray).size=p.size+1:=by rw[ByteArray.size_append];show 1+p.size=_;omega
 have hqz:q.size<=900:=by rw[<-hq,ByteArray.size_append,hz];show p.size+1+6<=_;omega
 have HO:=hid (Po (p:=q) hqz)
 have HL:=hid (VX (p:=q) hqz)
 have HR1: ∀w:World,(Op.stringOp .add ⟨#[40]⟩ p).run Tryz.prog w= .ok (.string (⟨#[40]⟩++p)) w:=fun w=>run_string_add_sum w _ _ (by show 1+p.size<=_;omega)
 have HR2: ∀w:World,(Op.stringOp .add (⟨#[40]⟩++p) ⟨#[41,40,47,124,36,41]⟩).run Tryz.prog w= .ok (.string q) w:=fun w=>by rw[run_string_add_sum w _ _ (by rw[hz];show p.size+1+6<=_;omega),hq]
 have HC:Hid (∀w,Calls Tryz.prog 49 #[.string p,.string ⟨#[47]⟩] w fun e w'=>e= .returned (.bool true)/\w'=w):=fun w=>by
  have h:=Tryz.strings_Contains_one p 47 w
  rwa[<-Lib.contains_iff_indexByte,show p.data.toList.contains 47=true from hs]at h
 have HH:Hid (ask false p=fun s=>Dq (ins q) (DL s)):=by
  unfold Hid ask
  funext s
  rw[if_neg (by decide),hs,if_pos rfl,ha]
 have eZ:=hid hlo
 unfold NA
 rw[HH.out,ha]
 unfold Om at HO
 obtain⟨E,hE⟩: ∃E,er q=E:=⟨_,rfl⟩
 obtain⟨I,hI⟩: ∃I,ins q=I:=⟨_,rfl⟩
 rw[hE,hI]at HO HL
 rw[hE,hI]
 obtain⟨A0,n0,c0,rfl⟩:=hv
 have B0:=hid (W14.AZ w (.cells #[.slice A0 n0 c0] 46))
 clear hE hI hq ha hz hqz hp hlo HH hs
 unfold Xx
 by_cases he:E=0
 ·subst he
  go_enter Tryz.func30,Tryz.ntmps30
  go_wp2_with fail
  refine(HC.out _).mono ?_
  rintro e w0 ⟨rfl,rfl⟩
  go_wp2_with fail
  refine(HO.out _).mono ?_
  rintro e w1 (⟨-,v1,rfl,o1,l1⟩|⟨h,-⟩)
  ·have K1:=hid (OA o1 46)
   have R1:=hid (fun k h=>Nat.le_trans (Nat.le_trans eZ.out B0.out.size) (o1.lt k h).1)
   obtain⟨A,c,rfl,-,-⟩:=(Al.Bw BJ rfl o1).form
   have L1:=hid (on B0.out l1)
   clear o1 l1
   go_wp2_with fail
   go_ret2
   exact⟨on L1.out (W14.AZ _ _),Or.inl ⟨trivial,_,_,rfl,Xv K1.out (HL.out trivial),VY (Nat.le_trans eZ.out L1.out.size) R1.out⟩⟩
  exact absurd rfl h
 have te:(E !=0)=true:=by simpa using he
 go_enter Tryz.func30,Tryz.ntmps30
 go_wp2_with fail
 refine(HC.out _).mono ?_
 rintro e w0 ⟨rfl,rfl⟩
 go_wp2_with fail
 refine(HO.out _).mono ?_
 rintro e w1 (⟨h,-⟩|⟨-,rfl,l1⟩)
 ·exact absurd h he
 have L1:=hid (on B0.out l1)
 clear l1
 go_wp2_with fail
 go_ret2
 exact⟨on L1.out (W14.AZ _ _),Or.inr ⟨he,rfl⟩⟩
def IU (begins:Bool) (p:ByteArray):Int:=if er p≠0 then er p else NA begins p
end
def Zx (begins:Bool):Nat:=if begins then 31 else 30
theorem pR (b:Bool) {w:World} {lo:Nat} {p:ByteArray} {v:Value} (hp:p.size<=800) (hlo:lo<=w.heap.size) (he:er p=0) (ho:w.ownsRow lo 106 4 v (ins p).length ((ins p).flatMap CZ)):Calls Tryz.prog (Zx b) #[.string p,v] w (Xx lo (NA b p) (ask b p) w):=by
 cases b with
 |true=>exact Zw hp hlo
 |false=>
  cases hs:Da p with
  |true=>
   obtain⟨A,c,e,-,-⟩:=(Al.Bw BJ rfl ho).form
   exact PL hp hlo hs ⟨_,_,_,e⟩
  |false=>
   have e:NA false p=0:=by
    unfold NA asked
    rw[if_neg (by decide),hs,if_neg (by decide)];exact he
   rw[e]
   exact PK hlo hs ho (VX (by omega) he)
theorem Zy (b:Bool): ∀args w,(callFunc (Zx b) args).run Tryz.prog w= .ok (.enter (Zx b) args) w:=by
 cases b with
 |true=>exact enters_of Tryz.func31 (by kernel_rfl) rfl
 |false=>exact enters_of Tryz.func30 (by kernel_rfl) rfl
end Gg
namespace Gg
open Go.Shelf Strs Al
open Kit (below_draws on AX)
abbrev Fn:= {f:Value // f.oneCell'=true}
def VZ (f:Fn):List Value:= [f.1]
theorem NC (f:Fn):(VZ f).length=1:=rfl
theorem kZ (f:Fn): ∀c∈VZ f,c.oneCell'=true:=by
 intro c hc
 simp only[VZ,List.mem_singleton]at hc
 rw[hc];exact f.2
theorem kg:(Tryz.prog.info? 66).map (fun i=>(i.zero,i.size,i.bytes))=some (some .nilFunc,1,8):=by kernel_rfl
theorem tF (w:World) (f:Fn) (t:TypeId):Al VZ 1 (w.heap.size+1) (w.alloc (.cells #[f.1] t)) (.slice (some ⟨w.heap.size,0,none⟩) 1 1) [f]:=by
 refine⟨_,1,rfl,Nat.le_refl _,by unfold maxLen;decide,fun _=>⟨_,rfl,Nat.lt_succ_self _,fun k hk j hj=> ?_⟩⟩
 have hk0:k=0:=by simpa using hk
 have hj0:j=0:=by omega
 subst hk0 hj0
 exact cell_one_new w f.1 t 0 f.1 rfl
structure KD (F:KC) (w:World) (q:Nat) (v:Value) (fs:List Fn) (hs:List (ByteArray->Bool)):Prop where
 box:Boxed w q 65 v
 row:w.ownsRow (q+1) 66 1 v fs.length (fs.flatMap VZ)
 low: ∀k,F k->q+1<=k/\k<w.heap.size
 off: ∀k,v.ownBlock=some k-> ¬F k
 len:fs.length=hs.length
 asks: ∀(j:Nat) (h1:j<fs.length) (h2:j<hs.length),JP F w (fs[j]).1 hs[j]
section
variable {F G:KC} {w w':World} {q:Nat} {v:Value} {fs:List Fn} {hs:List (ByteArray->Bool)}
theorem KD.below (h:KD F w q v fs hs) (hb:Below w.heap.size w w'):KD F w' q v fs hs:=
 ⟨(hb.block q h.box.lt).trans h.box,(Range.AP.new (T:=fun _=>False) hb).row h.row (fun _ _ h=>h),fun k hk=>⟨(h.low k hk).1,Nat.lt_of_lt_of_le (h.low k hk).2 hb.size⟩,h.off,h.len,fun j h1 h2=>(h.asks j h1 h2).below hb⟩
theorem KD.new (w:World):KD (fun _=>False) (w.alloc (.cells #[.slice none 0 0] 65)) w.heap.size (.slice none 0 0) [] []:=
 ⟨Boxed.new w _ _,World.ownsRow_nil _ _ _ _,fun _ h=>h.elim,fun _ _ h=>h,rfl,fun _ h1=>absurd h1 (Nat.not_lt_zero _)⟩
theorem KD.add {f:Fn} {h:ByteArray->Bool} {tmp:Obj} {v1:Value} (s:KD F w q v fs hs) (a:JP G w f.1 h) (hG: ∀k,G k->q+1<=k) (hvG: ∀k,v.ownBlock=some k-> ¬G k)
    (hown:w'.ownsRow (q+1) 66 1 v1 (fs.length+1) (fs.flatMap VZ++ [f].flatMap VZ)) (hp:Put v v1 (w.alloc tmp) w'):KD (fun k=>F k\/G k) (w'.setCell ⟨q,0,none⟩ v1) q v1 (fs++ [f]) (hs++ [h])/\Below q w (w'.setCell ⟨q,0,none⟩ v1):=by
 have hq:=s.box.lt
 have hU: ∀k,F k\/G k->q+1<=k/\k<w.heap.size:=fun k hk=>by
  rcases hk with hk|hk
  ·exact s.low k hk
  exact⟨hG k hk,a.1 k hk⟩
 have hoff: ∀k,v1.ownBlock=some k-> ¬(F k\/G k):=fun k hk uU=>by
  rcases hp.own k hk with h1|h1
  ·rcases uU with h2|h2
   ·exact s.off k h1 h2
   exact hvG k h1 h2
  have:=hU k uU
  rw[World.size_alloc]at h1
  omega
 have hsz:w.heap.size+1<=w'.heap.size:=by have:=hp.grown.size;rw[World.size_alloc]at this;exact this
 have hkept: ∀k,F k\/G k->(w'.setCell ⟨q,0,none⟩ v1).heap[k]? =w.heap[k]? :=fun k hk=>by
  have h1:=hU k hk
  rw[heap_setCell_other w' ⟨q,0,none⟩ k v1 (by show k≠q;omega),hp.kept k (by rw[World.size_alloc];omega) (fun e=>hoff k e hk)]
  exact Below.heap_alloc _ _ _ (by omega)
 have hne:some q≠v.ownBlock:=fun e=>by have:=(s.row.lt q e.symm).1;omega
 have hbx:Boxed w' q 65 v:=(s.box.alloc tmp).kept hp.grown hne
 have hn1:some q≠v1.ownBlock:=fun e=>by
  have:=(hown.lt q e.symm).1
  omega
 have hse:(w'.setCell ⟨q,0,none⟩ v1).heap.size=w'.heap.size:=by simp[World.setCell]
 refine⟨⟨hbx.set v1,?_,fun k hk=>⟨(hU k hk).1,by have:=(hU k hk).2;omega⟩,hoff,by simp[s.len],fun j h1 h2=> ?_⟩,?_⟩
 ·rw[List.length_append,List.flatMap_append]
  exact hown.kept (grownBy_setCell' w' q v1) (.inr hn1.symm)
 ·have hwd: ∀k,F k\/G k->k<w.heap.size:=fun k hk=>(hU k hk).2
  have hss:w.heap.size<=(w'.setCell ⟨q,0,none⟩ v1).heap.size:=by omega
  rcases Nat.lt_or_ge j fs.length with hj|hj
  ·have:=((s.asks j hj (by rw[<-s.len];exact hj)).wider hwd (fun _=>Or.inl)).same hkept hss
   rw[List.getElem_append_left hj,List.getElem_append_left (by rw[<-s.len];exact hj)]
   exact this
  have hj2:j=fs.length:=by simp at h1;omega
  subst hj2
  rw[List.getElem_append_right (Nat.le_refl _),List.getElem_append_right (by rw[s.len];exact Nat.le_refl _)]
  simp only[Nat.sub_self,List.getElem_singleton]
  have:=(a.wider hwd (fun _=>Or.inr)).same hkept hss
  simpa [s.len]using this
 have h1:Below q w (w.alloc tmp):=(Below.refl _ w).alloc (by omega) tmp
 have h2:Below q (w.alloc tmp) w':=⟨hp.grown.os,hp.grown.tape,hp.grown.output,hp.grown.size,fun k hk=>hp.grown.block k (by rw[World.size_alloc];omega) (fun e=>by
  have:=(s.row.lt k e.symm).1;omega)⟩
 exact(h1.trans h2).setCell (p:=⟨q,0,none⟩) (Nat.le_refl q) v1
def FO (w:World) (q:Nat) (hs:List (ByteArray->Bool)):Prop:= ∃(F:KC) (v:Value) (fs:List Fn),KD F w q v fs hs
theorem FO.below (h:FO w q hs) (hb:Below w.heap.size w w'):FO w' q hs:=by
 obtain⟨F,v,fs,h⟩:=h
 exact⟨F,v,fs,h.below hb⟩
end
end Gg
namespace Gg
open Go.Shelf Strs Al
open EH (Gives Fails BJ)
open Kt (Bytes)
open Kit (below_draws on AX Ae)
def bad (b:Bool):List Bytes->Nat->Int×Int
 | [],_=>(-1,0)
 |p::r,i=>if IU b (mk p)≠0 then(i,IU b (mk p))else bad b r (i+1)
def asks (b:Bool) (L:List Bytes):List (ByteArray->Bool):=L.map fun p=>ask b (mk p)
theorem KE (b:Bool): ∀(pre rest:List Bytes) (i:Nat),(∀p∈pre,IU b (mk p)=0)->bad b (pre++rest) i=bad b rest (i+pre.length)
 | [],rest,i,_=>rfl
 |p::pre,rest,i,h=>by
  rw[List.cons_append,bad,if_neg (by simp[h p (by simp)]),KE b pre rest (i+1) (fun q hq=>h q (by simp[hq]))]
  congr 1
  simp;omega
def O0 (b:Bool) (L:List Bytes) (w:World) (e:Ending) (w':World):Prop:=
 Below w.heap.size w w'/\(((bad b L 0).2=0/\ ∃q,e= .returned (.tuple #[.pointer (some ⟨q,0,none⟩),.int .i64 (-1),.int .i64 0])/\FO w' q (asks b L))\/
  ((bad b L 0).2≠0/\e= .returned (.tuple #[.pointer none,.int .i64 (bad b L 0).1,.int .i64 (bad b L 0).2])))
section
variable {w:World} {lv:Value} {L:List Bytes}
set_option maxHeartbeats 8000000 in
theorem Rn (b:Bool) (hl:Bc w.heap.size w lv L) (hn:L.length<=1000) (hs: ∀p∈L,p.length<=800):Calls Tryz.prog 29 #[lv,.func (.func (Zx b)) #[] #[]] w (O0 b L w):=by
 obtain⟨i0,hi,hz0,hz1,hz2⟩:=info_parts kg
 obtain⟨A,c,rfl,hc1,hc2⟩:=hl.form
 obtain⟨n,hnn⟩: ∃n,L.length=n:=⟨_,rfl⟩
 have HN:=hid hnn
 rw[hnn]at hl hc1 hn ⊢
 unfold maxLen at hc2
 have HL:=hid hl
 have HC:=hid (show n<=c/\c<=9223372036854775807/\n<=1000 from⟨hc1,hc2,hn⟩)
 have HS:=hid hs
 obtain⟨hf,y5⟩: ∃hf,Zx b=hf:=⟨_,rfl⟩
 have HH:Hid (∀ {w:World} {lo:Nat} {p:ByteArray} {v:Value},p.size<=800->lo<=w.heap.size->er p=0->w.ownsRow lo 106 4 v (ins p).length ((ins p).flatMap EH.CZ)->Calls Tryz.prog hf #[.string p,v] w (Xx lo (NA b p) (ask b p) w)):=by
  rw[<-y5];exact pR b
 have eg:=Zy b
 rw[y5]at eg ⊢
 obtain⟨q,hq⟩: ∃q,w.heap.size=q:=⟨_,rfl⟩
 have HQ:=hid hq
 have S0:=hid (KD.new w)
 have B0:Hid (Below w.heap.size w (w.alloc (.cells #[.slice none 0 0] 65))):=W14.AZ _ _
 rw[hq]at S0 B0 HL
 clear hl hc1 hc2 hn hs y5 hnn
 unfold O0
 go_enter Tryz.func29,Tryz.ntmps29
 go_wp2_with fail
 go_loopg [17] n (fun gk vR wr=> ∃(i:Nat) (F:KC) (v:Value) (fs:List Fn),vR= .int .i64 i/\Hid (i+gk=n)/\Hid (∀p∈L.take i,IU b (mk p)=0)/\Hid (KD F wr q v fs (asks b (L.take i)))/\Hid (Below q w wr))
 case atStart=>exact⟨0,_,_,[],rfl,by unfold Hid;omega,by simp[Hid],S0,B0⟩
 case round=>
  clear S0 B0
  obtain⟨i,F,v,fs,rfl,hig,HG,HI,LB⟩:=hrel
  cases gk with
  |zero=>
   have hi2:i=n:=by have:=hig.out;omega
   subst hi2
   have ti: ¬(i:Int)<(i:Int):=by omega
   have y7:L.take i=L:=by rw[<-HN.out,List.take_length]
   have hbad:Hid (bad b L 0=(-1,0)):=by
    have h1:=HG.out
    rw[y7]at h1
    have:=KE b L [] 0 h1
    rw[List.append_nil]at this
    unfold Hid
    rw[this];rfl
   have HI2:=HI.out
   rw[y7]at HI2
   have HI3:=hid HI2
   clear y7 HI2
   go_wp2_with fail
   refine bodyPost_ret (results_tmp3 rfl _ _ _) rfl ?_
   rw[hbad.out]
   exact⟨by first|exact LB.out|(rw[HQ.out];exact LB.out),Or.inl ⟨rfl,q,rfl,F,v,fs,HI3.out⟩⟩
  |succ gk=>
   have hi1:i<n:=by have:=hig.out;omega
   have ti:(i:Int)<(n:Int):=by omega
   have tx:=HL.out.below LB.out
   obtain⟨ad,x,rfl,hb,hx,hxd⟩:=tx.at_ hi1
   have hil:i<L.length:=by rw[HN.out];exact hi1
   have Ro:L[i]'hil=x.data.toList:=by
    rw[hxd,List.getD_eq_getElem?_getD,List.getElem?_eq_getElem hil];rfl
   have hmx:Hid (mk (L[i]'hil)=x):=by unfold Hid;rw[Ro];exact Ae x
   have hxs:x.size<=800:=by rw[Lib.size_eq,<-Ro];exact HS.out _ (List.getElem_mem hil)
   have wS:=hid hxs
   have htk:Hid (L.take (i+1)=L.take i++ [L[i]'hil]):=by unfold Hid;rw[List.take_succ_eq_append_getElem hil]
   have hpr:Hid (L=L.take i++L[i]'hil::L.drop (i+1)):=by
    unfold Hid
    conv=>lhs;rw[<-List.take_append_drop i L,List.drop_eq_getElem_cons hil]
   have hlt:Hid ((L.take i).length=i):=by unfold Hid;rw[List.length_take];omega
   have Va:wrap64 ((i:Int)+1)=((i+1:Nat):Int):=by have:=HC.out.2.2;unfold wrap64;omega
   have IY:Hid (i+1+gk=n):=by have:=hig.out;unfold Hid;omega
   have HO:=hid (Po (p:=x) (by omega))
   unfold Om at HO
   have HF:Hid (∀e:Int,IU b x=e->e≠0->bad b L 0=((i:Int),e)):=fun e he h0=>by
    rw[hpr.out,KE b _ _ 0 HG.out,bad,hmx.out,he,if_pos h0,hlt.out,Nat.zero_add]
   clear tx hb hxd Ro hxs hig
   by_cases he:er x=0
   ·have HE:=hid he
    go_wp2_with fail
    refine(HO.out _).mono ?_
    rintro e w2 (⟨-,v2,rfl,o2,l2⟩|⟨h,-⟩)
    ·have L2:Hid (Below q w w2):=LB.out.trans (l2.mono (by have:=LB.out.size;rw[HQ.out]at this;exact this))
     have S2:=HI.out.below l2
     have HK:=hid (HH.out wS.out l2.size HE.out o2)
     have y8:Hid (∀k,v.ownBlock=some k->k<wr.heap.size):=fun k hk=>(HI.out.row.lt k hk).2
     have HQW:Hid (q+1<=wr.heap.size):=HI.out.box.lt
     have S2:=hid S2
     clear o2 l2 HI LB
     by_cases he2:NA b x=0
     ·have qa:Hid (IU b x=0):=by unfold Hid IU;rw[if_neg (by simp[HE.out])];exact he2
      have HE2:=hid he2
      go_wp2_with fail
      refine HK.out.mono ?_
      rintro e w3 ⟨l3,(⟨-,G,f,rfl,aG,hG⟩|⟨h,-⟩)⟩
      ·have L3:Hid (Below q w w3):=L2.out.trans (l3.mono (by have:=L2.out.size;rw[HQ.out]at this;exact this))
       have S3:=S2.out.below l3
       have AG:=hid aG
       obtain⟨-,g,lb,rfl,-,-⟩:=aG
       have HGQ:Hid (∀k,G k->q+1<=k):=fun k hk=>Nat.le_trans HQW.out (hG k hk)
       have HGV:Hid (∀k,v.ownBlock=some k-> ¬G k):=fun k hk h=>by have:=hG k h;have:=y8.out k hk;omega
       have c3:=S3.box.cell
       have S4:=hid S3
       have hfl:Hid (fs.length<=1000):=by
        have h1:=S3.len
        unfold asks at h1
        rw[List.length_map,hlt.out]at h1
        have:=HC.out.2.2
        unfold Hid;omega
       have Z3:Hid (q+1<=w3.heap.size):=Nat.succ_le_of_lt S3.box.lt
       clear l3 S3 hG
       go_wp2_with (at_builtin;refine FI (enc:=VZ) rfl (.tmp 46) (.tmp 48) 63 rfl (q+1) 66 i0 .nilFunc 1 8 Tryz.underlying63 hi hz0 hz1 hz2 rfl (by decide) v fs.length (fs.flatMap VZ) rfl (S4.out.row.alloc _) (.slice (some ⟨w3.heap.size,0,none⟩) 1 1) [⟨.func (.func g) #[] lb,rfl⟩] (w3.heap.size+1) rfl (tF w3 ⟨.func (.func g) #[] lb,rfl⟩ _) NC kZ (by have:=hfl.out;unfold maxLen;simp;omega) (by have:=hfl.out;simp;omega) (by have:=Z3.out;simp;omega) ?_;intro v1 w4 hown hput;have hbx:=(S4.out.box.alloc (.cells #[.func (.func g) #[] lb] 66)).kept hput.grown (fun e=>by have:=(S4.out.row.lt q e.symm).1;omega);have c4:=hbx.cell;have f4:=hbx.frozen;have HAD:=hid (S4.out.add (f:=⟨.func (.func g) #[] lb,rfl⟩) AG.out HGQ.out HGV.out hown hput);obtain⟨g',cap',rfl⟩:=ownsRow_succ hown;clear hown hput hbx)
       have hta:Hid (asks b (L.take (i+1))=asks b (L.take i)++ [ask b x]):=by unfold Hid;rw[htk.out];unfold asks;rw[List.map_append,List.map_singleton,hmx.out]
       have HG2:Hid (∀p∈L.take (i+1),IU b (mk p)=0):=by
        unfold Hid
        rw[htk.out]
        intro p hp
        rcases List.mem_append.1 hp with hp|hp
        ·exact HG.out p hp
        simp at hp;rw[hp,hmx.out];exact qa.out
       go_roundg gk
       case measure=>omega
       case rel=>exact⟨i+1,_,_,_,congrArg (Value.int .i64) Va,IY,HG2,by rw[hta.out];exact HAD.out.1,L3.out.trans HAD.out.2⟩
      exact absurd he2 h
     have qa:IU b x=NA b x:=by unfold IU;rw[if_neg (by simp[HE.out])]
     have HB:=hid (HF.out (NA b x) qa he2)
     have te:(NA b x !=0)=true:=by simpa using he2
     have HE2:=hid he2
     obtain⟨E,hE⟩: ∃E,NA b x=E:=⟨_,rfl⟩
     rw[hE]at te HK HB HE2
     clear qa he2 hE
     go_wp2_with fail
     refine HK.out.mono ?_
     rintro e w3 ⟨l3,(⟨h,-⟩|⟨-,rfl⟩)⟩
     ·exact absurd h HE2.out
     have L3:Hid (Below q w w3):=L2.out.trans (l3.mono (by have:=L2.out.size;rw[HQ.out]at this;exact this))
     clear l3
     go_wp2_with fail
     refine bodyPost_ret (results_tmp3 rfl _ _ _) rfl ?_
     rw[HB.out]
     exact⟨by first|exact L3.out|(rw[HQ.out];exact L3.out),Or.inr ⟨HE2.out,rfl⟩⟩
    exact absurd he h
   have te:(er x !=0)=true:=by simpa using he
   have hbd:=HF.out (er x) (by unfold IU;rw[if_pos he]) he
   have HB:=hid hbd
   have HE:=hid he
   obtain⟨E,hE⟩: ∃E,er x=E:=⟨_,rfl⟩
   rw[hE]at te HO HB HE
   clear hbd he hE
   go_wp2_with fail
   refine(HO.out _).mono ?_
   rintro e w2 (⟨h,-⟩|⟨-,rfl,l2⟩)
   ·exact absurd h HE.out
   have L2:Hid (Below q w w2):=LB.out.trans (l2.mono (by have:=LB.out.size;rw[HQ.out]at this;exact this))
   clear l2
   go_wp2_with fail
   refine bodyPost_ret (results_tmp3 rfl _ _ _) rfl ?_
   rw[HB.out]
   exact⟨by first|exact L2.out|(rw[HQ.out];exact L2.out),Or.inr ⟨HE.out,rfl⟩⟩
end
end Gg
namespace Gg
open Go.Shelf Strs Al
open Kt (Bytes)
open Kit (below_draws on AX)
section
variable {w:World} {lv:Value} {L:List Bytes} {q:Nat} {hs:List (ByteArray->Bool)} {s:ByteArray}
theorem H_ (hl:Bc w.heap.size w lv L) (hn:L.length<=1000) (hz: ∀p∈L,p.length<=800):Calls Tryz.prog 13 #[lv] w (O0 false L w):=by
 have H:=hid (Rn false hl hn hz)
 unfold Zx O0 at H
 simp only[Bool.false_eq_true,if_false]at H
 obtain⟨A,c,rfl,-,-⟩:=hl.form
 clear hl hn hz
 unfold O0
 generalize bad false L 0=R at*
 by_cases hR:R.2=0
 ·go_enter Tryz.func13,Tryz.ntmps13
  go_wp2_with fail
  refine H.out.mono ?_
  rintro e w1 ⟨l1,(⟨-,q,rfl,hS⟩|⟨h,-⟩)⟩
  ·go_wp2_with fail
   refine bodyPost_ret (results_tmp3 rfl _ _ _) rfl ?_
   exact⟨l1,Or.inl ⟨hR,q,rfl,hS⟩⟩
  exact absurd hR h
 go_enter Tryz.func13,Tryz.ntmps13
 go_wp2_with fail
 refine H.out.mono ?_
 rintro e w1 ⟨l1,(⟨h,-⟩|⟨-,rfl⟩)⟩
 ·exact absurd h hR
 go_wp2_with fail
 refine bodyPost_ret (results_tmp3 rfl _ _ _) rfl ?_
 exact⟨l1,Or.inr ⟨hR,rfl⟩⟩
theorem Rp (hl:Bc w.heap.size w lv L) (hn:L.length<=1000) (hz: ∀p∈L,p.length<=800):Calls Tryz.prog 14 #[lv] w (O0 true L w):=by
 have H:=hid (Rn true hl hn hz)
 unfold Zx O0 at H
 simp only[if_true]at H
 obtain⟨A,c,rfl,-,-⟩:=hl.form
 clear hl hn hz
 unfold O0
 generalize bad true L 0=R at*
 by_cases hR:R.2=0
 ·go_enter Tryz.func14,Tryz.ntmps14
  go_wp2_with fail
  refine H.out.mono ?_
  rintro e w1 ⟨l1,(⟨-,q,rfl,hS⟩|⟨h,-⟩)⟩
  ·go_wp2_with fail
   refine bodyPost_ret (results_tmp3 rfl _ _ _) rfl ?_
   exact⟨l1,Or.inl ⟨hR,q,rfl,hS⟩⟩
  exact absurd hR h
 go_enter Tryz.func14,Tryz.ntmps14
 go_wp2_with fail
 refine H.out.mono ?_
 rintro e w1 ⟨l1,(⟨h,-⟩|⟨-,rfl⟩)⟩
 ·exact absurd h hR
 go_wp2_with fail
 refine bodyPost_ret (results_tmp3 rfl _ _ _) rfl ?_
 exact⟨l1,Or.inr ⟨hR,rfl⟩⟩
def Dr (hs:List (ByteArray->Bool)) (s:ByteArray):Bool:=hs.any fun h=>h s
theorem Vb (h:FO w q hs):Calls Tryz.prog 16 #[.pointer (some ⟨q,0,none⟩)] w fun e w'=>e= .returned (.int .i64 hs.length)/\w'=w:=by
 obtain⟨F,v,fs,h⟩:=h
 have c0:=h.box.cell
 have hl:=h.len
 obtain⟨A,c,rfl,-,-⟩:=(Al.Bw NC rfl h.row).form
 rw[hl]at c0
 clear h hl
 go_enter Tryz.func16,Tryz.ntmps16
 go_wp2_with fail
 go_ret
 exact⟨rfl,rfl⟩
theorem Md (h:FO w q hs) (hz:s.size<=1000):Calls Tryz.prog 17 #[.pointer (some ⟨q,0,none⟩),.string s] w fun e w'=>e= .returned (.bool (Dr hs s))/\Below w.heap.size w w':=by
 obtain⟨F,v,fs,h⟩:=h
 have c0:=h.box.cell
 have hl:=h.len
 have rr:=Al.Bw NC rfl h.row
 obtain⟨A,c,rfl,hc1,hc2⟩:=rr.form
 obtain⟨n,hn⟩: ∃n,hs.length=n:=⟨_,rfl⟩
 rw[hn]at hl
 rw[hl]at c0 rr hc1
 have RR:=hid rr
 have HA:=hid h.asks
 have Pj:=hid hl
 have HHN:=hid hn
 unfold maxLen at hc2
 have HC:=hid (show n<=c/\c<=9223372036854775807 from⟨hc1,hc2⟩)
 have HZ:=hid hz
 clear h hl rr hn hc1 hc2 hz
 go_enter Tryz.func17,Tryz.ntmps17
 go_wp2_with fail
 go_loopg [14] n (fun gk vv wr=> ∃i:Nat,vv= .int .i64 i/\Hid (i+gk=n)/\Hid (Dr (hs.take i) s=false)/\Hid (Below w.heap.size w wr))
 case atStart=>exact⟨0,rfl,by unfold Hid;omega,rfl,Below.refl _ _⟩
 case round=>
  obtain⟨i,rfl,hig,Q_,LB⟩:=hrel
  cases gk with
  |zero=>
   have hi2:i=n:=by have:=hig.out;omega
   subst hi2
   have ti: ¬(i:Int)<(i:Int):=by omega
   have hres:Hid (Dr hs s=false):=by
    have:=Q_.out
    rwa[<-HHN.out,List.take_length]at this
   go_wp2_with fail
   go_ret
   exact⟨AX hres.out.symm,LB.out⟩
  |succ gk=>
   have hi1:i<n:=by have:=hig.out;omega
   have ti:(i:Int)<(n:Int):=by omega
   have DT:wrap64 ((i:Int)+1)=((i+1:Nat):Int):=by have:=HC.out;unfold wrap64;omega
   obtain⟨bk,o,hl1,rfl,hbk,hcell⟩:=(RR.out.below LB.out).Gq NC (by decide) (k:=i) hi1
   have hx:=hcell 0 (by decide)
   rw[Nat.mul_one,Nat.add_zero]at hx
   have hl2:i<hs.length:=by rw[HHN.out];exact hi1
   have ha:=(HA.out i hl1 hl2).below LB.out
   obtain⟨f,hf⟩: ∃f,fs[i]'hl1=f:=⟨_,rfl⟩
   rw[hf]at hx ha
   have hx2:wr.cell? ⟨bk,o+i,none⟩=some f.1:=hx
   obtain⟨-,g,lb,hfe,eg,hcall⟩:=ha
   have HK:=hid (hcall wr (fun _ _=>rfl) (Nat.le_refl _) s HZ.out)
   rw[hfe]at hx2
   have htk:hs.take (i+1)=hs.take i++ [hs[i]'hl2]:=List.take_succ_eq_append_getElem hl2
   have IY:Hid (i+1+gk=n):=by have:=hig.out;unfold Hid;omega
   clear hx hcell hbk hcall hf hfe hig
   cases hr:(hs[i]'hl2) s with
   |true=>
    rw[hr]at HK
    have hres:Hid (Dr hs s=true):=by
     show _=_
     unfold Dr
     rw[List.any_eq_true]
     exact⟨_,List.getElem_mem hl2,hr⟩
    clear htk
    go_wp2_with fail
    refine HK.out.mono ?_
    rintro e w1 ⟨rfl,l1⟩
    have L1:=hid (on LB.out l1)
    clear l1
    go_wp2_with fail
    go_ret
    exact⟨AX hres.out.symm,L1.out⟩
   |false=>
    rw[hr]at HK
    have tH:Hid (Dr (hs.take (i+1)) s=false):=by
     have h1:=Q_.out
     unfold Hid
     unfold Dr at h1 ⊢
     rw[htk,List.any_append,h1]
     simp[hr]
    clear htk
    go_wp2_with fail
    refine HK.out.mono ?_
    rintro e w1 ⟨rfl,l1⟩
    have L1:=hid (on LB.out l1)
    clear l1
    go_wp2_with fail
    go_roundg gk
    case measure=>omega
    case rel=>exact⟨i+1,congrArg (Value.int .i64) DT,IY,tH,L1⟩
end
end Gg
namespace Gg
open Go
open Kt (Bytes)
def builtIn:List Bytes:= [[82,67,83],[46,43,44,118],[67,86,83],[92,46,92,35,46,43],[92,46,99,118,115,105,103,110,111,114,101],[92,46,115,118,110],[95,100,97,114,99,115],[92,46,104,103],[92,46,103,105,116],[92,46,103,105,116,105,103,110,111,114,101],[92,46,103,105,116,109,111,100,117,108,101,115],[46,43,126],[92,35,46,42,92,35],[94,47,82,69,65,68,77,69,46,42],[94,47,76,73,67,69,78,83,69,46,42],[94,47,67,79,80,89,73,78,71]]
theorem TJ:bad false builtIn 0=(-1,0):=by decide+kernel
theorem Xy:Dr (asks false builtIn) ⟨#[97,47,120,126]⟩=true/\Dr (asks false builtIn) ⟨#[82,69,65,68,77,69]⟩=true:=by decide+kernel
theorem Zz:Dr (asks false builtIn) ⟨#[97,47,82,69,65,68,77,69]⟩=false/\Dr (asks false builtIn) ⟨#[97,47,98]⟩=false:=by decide+kernel
end Gg
namespace Gg
open Strs
open Kt (Bytes)
open Kit (below_draws on AX)
theorem Uh (w:World) (L:List Bytes) (h:L.length<=maxLen) (t:TypeId):Bc (w.heap.size+1) (w.alloc (.cells (L.map D6).toArray t)) (.slice (some ⟨w.heap.size,0,none⟩) L.length L.length) L:=by
 refine⟨_,L.length,rfl,Nat.le_refl _,h,fun _=>⟨_,rfl,Nat.lt_succ_self _,fun k hk=> ?_⟩⟩
 have h1:=Al.Ic w (L.map D6) t k (D6 (L.getD k [])) (by rw[List.getElem?_map,List.getElem?_eq_getElem hk];simp[hk])
 exact h1
theorem O8 (w:World):Calls Tryz.prog 10 #[] w fun e w'=> ∃v,e= .returned v/\Bc w'.heap.size w' v builtIn/\Below w.heap.size w w':=by
 have hb:Hid (Bc (w.heap.size+1) (w.alloc (.cells (builtIn.map D6).toArray 9)) (.slice (some ⟨w.heap.size,0,none⟩) 16 16) builtIn):=Uh w builtIn (by unfold maxLen;decide) _
 go_enter Tryz.func10,Tryz.ntmps10
 go_wp2_with fail
 go_ret
 exact⟨_,rfl,by rw[World.size_alloc];exact hb.out,(Below.refl _ w).alloc (Nat.le_refl _) _⟩
def mW (w:World) (e:Ending) (w':World):Prop:=e= .returned (.bool true)/\Below w.heap.size w w'
theorem KY (w:World):Calls Tryz.prog 6 #[] w (mW w):=by
 unfold mW
 have HD:=hid O8
 have HC:Hid (∀(w:World) (v:Value),Bc w.heap.size w v builtIn->Calls Tryz.prog 13 #[v] w fun e w'=> ∃q,e= .returned (.tuple #[.pointer (some ⟨q,0,none⟩),.int .i64 (-1),.int .i64 0])/\FO w' q (asks false builtIn)/\Below w.heap.size w w'):=fun w v h=>by
  refine(H_ h (by decide) (by decide)).mono ?_
  rintro e w' ⟨l,(⟨-,q,rfl,hS⟩|⟨h,-⟩)⟩
  ·exact⟨q,rfl,hS,l⟩
  rw[TJ]at h;exact absurd rfl h
 have HN:Hid (∀(w:World) (q:Nat),FO w q (asks false builtIn)->Calls Tryz.prog 16 #[.pointer (some ⟨q,0,none⟩)] w fun e w'=>e= .returned (.int .i64 16)/\w'=w):=fun w q h=>Vb h
 have HH:Hid (∀(w:World) (q:Nat),FO w q (asks false builtIn)-> ∀s:ByteArray,s.size<=1000->Calls Tryz.prog 17 #[.pointer (some ⟨q,0,none⟩),.string s] w fun e w'=>e= .returned (.bool (Dr (asks false builtIn) s))/\Below w.heap.size w w'):=fun w q h s hz=>Md h hz
 obtain⟨y1,y2⟩:=Xy
 obtain⟨n1,n2⟩:=Zz
 have H1:Hid (∀(w:World) (q:Nat),FO w q (asks false builtIn)->Calls Tryz.prog 17 #[.pointer (some ⟨q,0,none⟩),.string ⟨#[97,47,120,126]⟩] w fun e w'=>e= .returned (.bool true)/\Below w.heap.size w w'):=fun w q h=>by have:=HH.out w q h ⟨#[97,47,120,126]⟩ (by decide);rwa[y1]at this
 have H2:Hid (∀(w:World) (q:Nat),FO w q (asks false builtIn)->Calls Tryz.prog 17 #[.pointer (some ⟨q,0,none⟩),.string ⟨#[82,69,65,68,77,69]⟩] w fun e w'=>e= .returned (.bool true)/\Below w.heap.size w w'):=fun w q h=>by have:=HH.out w q h ⟨#[82,69,65,68,77,69]⟩ (by decide);rwa[y2]at this
 have H3:Hid (∀(w:World) (q:Nat),FO w q (asks false builtIn)->Calls Tryz.prog 17 #[.pointer (some ⟨q,0,none⟩),.string ⟨#[97,47,82,69,65,68,77,69]⟩] w fun e w'=>e= .returned (.bool false)/\Below w.heap.size w w'):=fun w q h=>by have:=HH.out w q h ⟨#[97,47,82,69,65,68,77,69]⟩ (by decide);rwa[n1]at this
 have H4:Hid (∀(w:World) (q:Nat),FO w q (asks false builtIn)->Calls Tryz.prog 17 #[.pointer (some ⟨q,0,none⟩),.string ⟨#[97,47,98]⟩] w fun e w'=>e= .returned (.bool false)/\Below w.heap.size w w'):=fun w q h=>by have:=HH.out w q h ⟨#[97,47,98]⟩ (by decide);rwa[n2]at this
 clear HH y1 y2 n1 n2
 generalize asks false builtIn=S at*
 generalize builtIn=D at*
 go_enter Tryz.func6,Tryz.ntmps6
 go_wp2_with fail
 refine(HD.out _).mono ?_
 rintro e w1 ⟨v,rfl,t1,l1⟩
 have T1:=hid t1
 have L1:=hid l1
 obtain⟨A,c,rfl,-,-⟩:=t1.form
 clear t1 l1
 go_wp2_with fail
 refine(HC.out _ _ T1.out).mono ?_
 rintro e w2 ⟨q,rfl,s2,l2⟩
 have S2:=hid s2
 have L2:=hid (on L1.out l2)
 clear s2 l2
 go_wp2_with fail
 refine(HN.out _ _ S2.out).mono ?_
 rintro e w3 ⟨rfl,rfl⟩
 go_wp2_with fail
 refine(H1.out _ _ S2.out).mono ?_
 rintro e w4 ⟨rfl,l4⟩
 have S4:=hid (S2.out.below l4)
 have L4:=hid (on L2.out l4)
 clear l4
 go_wp2_with fail
 refine(H2.out _ _ S4.out).mono ?_
 rintro e w5 ⟨rfl,l5⟩
 have S5:=hid (S4.out.below l5)
 have L5:=hid (on L4.out l5)
 clear l5
 go_wp2_with fail
 refine(H3.out _ _ S5.out).mono ?_
 rintro e w6 ⟨rfl,l6⟩
 have S6:=hid (S5.out.below l6)
 have L6:=hid (on L5.out l6)
 clear l6
 go_wp2_with fail
 refine(H4.out _ _ S6.out).mono ?_
 rintro e w7 ⟨rfl,l7⟩
 have L7:=hid (on L6.out l7)
 clear l7
 go_wp2_with fail
 go_ret
 exact⟨rfl,L7.out⟩
end Gg
end Go.Proofs.YtfgegjinhkgpbaaGreatDoor
