/-
  Texts joined, in build order, each with its own comment and its own conditions: W17Lines, W17RefLine, W17RefLines, W17Line, W17Parse.
-/
import Derived.Test.YtfgegjinhkgpbaaGreatDoorJ01
import Derived.Test.YtfgegjinhkgpbaaGreatDoorJ02
import Derived.Deep.CutBlock
import Derived.Deep.DeepCutAuto
import Derived.Shelf.Strings.SlTrimAscii
import Derived.Test.YtfgegjinhkgpbaaGreatDoorJ03
namespace Go.Proofs.YtfgegjinhkgpbaaGreatDoor
set_option maxHeartbeats 4000000
set_option maxRecDepth 100000
open Go.RowKit
open Lib (hid)
namespace Gg
open Go.Shelf Range Kt
open Kit (Au AX BO CL Ae below_draws on BM Br Aa)
attribute [local go_sem] Oper.semAt_some
def CW (s:ByteArray):List ByteArray:=(ended s.data.toList).map mk
theorem aC (r:ByteArray):(r.size=0/\CW r= [])\/(0<r.size/\Lib.indexByte r.data.toList 10= -1/\CW r= [r])\/
    (∃k:Nat,Lib.indexByte r.data.toList 10=k/\k<r.size/\CW r=r.extract 0 (k+1)::CW (r.extract (k+1) r.size)):=by
 rcases Nat.eq_zero_or_pos r.size with h0|h0
 ·left
  refine⟨h0,?_⟩
  have:r.data.toList= []:=List.length_eq_zero_iff.1 (by rw[<-Lib.size_eq];exact h0)
  unfold CW
  rw[this];rfl
 right
 rcases Int.lt_or_le (Lib.indexByte r.data.toList 10) 0 with h|h
 ·left
  have h1:=Lib.indexByte_ge r.data.toList 10
  refine⟨h0,by omega,?_⟩
  unfold CW
  rw[OX (Ki.index_none _ _ h) (Kit.Pw h0)]
  show[mk r.data.toList]=_
  rw[show mk r.data.toList=r from Ae r]
 right
 obtain⟨k,e1,e2,e3,e4⟩:=Ki.K3 _ _ h
 refine⟨k,e1,by rw[Lib.size_eq];exact e2,?_⟩
 unfold CW
 rw[Aa]
 conv=>lhs;rw[e3,Tk _ e4]
 rw[List.map_cons]
 congr 1
 apply BM
 rw[Br]
 show r.data.toList.take k++ [10]=_
 rw[List.take_succ_eq_append_getElem e2]
 congr 2
 have h5:=congrArg (·[k]?) e3
 simp only[List.getElem?_append_right (show(r.data.toList.take k).length<=k by rw[List.length_take];omega)]at h5
 rw[List.getElem?_eq_getElem e2,List.length_take,Nat.min_eq_left (by omega),Nat.sub_self]at h5
 exact(Option.some.inj h5).symm
theorem aD (s:ByteArray) (w:World):Calls Tryz.prog 37 #[.string s,.int .u8 10] w fun e w'=>e= .returned (.int .i64 (Lib.indexByte s.data.toList 10))/\w'=w:=Tryz.strings_IndexByte s 10 w
theorem lS (s:ByteArray) (w:World):Calls Tryz.prog 19 #[.string s] w fun e w'=>e= .returned (.func (.func 36) #[] #[.pointer (some ⟨w.heap.size,0,none⟩)])/\w'=w.alloc (.cells #[.string s] 9):=by
 go_enter Tryz.func19,Tryz.ntmps19
 go_wp2_with fail
 go_ret
 exact⟨rfl,rfl⟩
def One (b k:Nat):Prop:=k=b
theorem fM (b:Nat) (s:ByteArray) (hs:s.size<=1099511627776) (w0:World) (c0:w0.cell? ⟨b,0,none⟩=some (.string s)) (f0:w0.frozen? ⟨b,0,none⟩=false) (hb:b<w0.heap.size):
    Seq Tryz.prog 36 #[.pointer (some ⟨b,0,none⟩)] (fun x:ByteArray=> .string x) (One b) 0 (CW s) w0:=by
 intro l J Jx W hW hJ hJx hY h0
 replace c0:W.cell? ⟨b,0,none⟩=some (.string s):=(hW.cell (p:=⟨b,0,none⟩) (by simp;omega)).trans c0
 replace f0:W.frozen? ⟨b,0,none⟩=false:=(World.frozen?_of_block (hW.block _ (by simp;omega))).trans f0
 have HI:=hid aD
 have HS:=hid hs
 refine(callsIn_wide (n:=9)).1 ?_
 refine callsIn_of_wp Tryz.func36 rfl trivial ?_ rfl
 simp only[Tryz.ntmps36,List.size_toArray,List.length_cons,List.length_nil,Nat.reduceAdd,Nat.reduceSub,Array.replicate_succ,Array.replicate_zero,List.push_toArray,List.append_toArray,List.nil_append,List.cons_append]
 gi_wp2
 gi_loopw [3,4] (fun i f wr=> ∃(pre:List ByteArray) (r:ByteArray),Hid (pre++CW r=CW s)/\Hid (J pre wr)/\r.size<=s.size/\W.heap.size<=wr.heap.size/\
     wr.cell? ⟨b,0,none⟩=some (.string r)/\wr.frozen? ⟨b,0,none⟩=false) (fun _ _ wr=>Jj.U3 b wr)
 case atStart=>exact⟨[],s,rfl,h0,Nat.le_refl _,Nat.le_refl _,c0,f0⟩
 case round=>
  obtain⟨pre,r,hp,hj,hr,hsz,d0,g0⟩:=hrel
  clear c0 f0 h0 hs
  have own: ¬ ¬Its (One b) W.heap.size 0 b:=fun h=>h (Or.inl rfl)
  rcases aC r with⟨hz,hq⟩|⟨hz,hi,hq⟩|⟨k,hi,hk,hq⟩
  ·have t0: ¬(r.size:Int)>0:=by omega
   have hpre:pre=CW s:=by rw[<-hp.out,hq,List.append_nil]
   gi_wp2
   go_end0
   exact⟨⟨_,rfl⟩,.inl (by rw[<-hpre];exact hj.out)⟩
  ·have t0:(r.size:Int)>0:=by omega
   have HI2:=hid (HI.out r)
   rw[hi]at HI2
   have hpre:pre++ [r]=CW s:=by rw[<-hp.out,hq]
   have e0:=Jj.Gh d0
   gi_wp2
   refine⟨trivial,?_⟩
   gi_at_call 37
   refine(callsIn_wide.2 (HI2.out _)).mono ?_
   rintro e w' ⟨rfl,rfl⟩
   obtain⟨fn,tmps,assign,body,hy,hR⟩:=hY pre r (w'.setCell ⟨b,0,none⟩ (.string ⟨#[]⟩)) (hJ _ _ _ hj.out (AP.setCell _ (Or.inl rfl))) (by simpa using hsz) (by rw[hpre];exact List.prefix_refl _)
   clear hY
   gi_wp2
   refine(FY _ hR).mono ?_
   rintro e W3 (⟨rfl,hJ3,hk3⟩|⟨rfl,hJx3,-⟩)
   ·have d1:(w'.setCell ⟨b,0,none⟩ (.string ⟨#[]⟩)).cell? ⟨b,0,none⟩=some (.string ⟨#[]⟩):=World.cell?_setCell_same' _ _ _ (by rw[d0];rfl)
    have d3:W3.cell? ⟨b,0,none⟩=some (.string ⟨#[]⟩):=hk3.cell (a:=⟨b,0,none⟩) d1 own
    have f3:W3.frozen? ⟨b,0,none⟩=false:=(hk3.frozen (a:=⟨b,0,none⟩) d1 own).trans (by rw[World.frozen?_setCell];exact g0)
    have hs3:W.heap.size<=W3.heap.size:=Nat.le_trans (by simpa using hsz) hk3.size
    clear hR hy own
    gi_wp2
    go_roundw
    case rel=>exact⟨pre++ [r],⟨#[]⟩,by show _=_;rw[<-hpre];exact List.append_nil _,hJ3,Nat.zero_le _,hs3,d3,f3⟩
    case measure=>rw[e0,Jj.Gh d3];exact hz
   gi_wp2
   refine bodyPost_ret (results_none rfl _ _ _) rfl ?_
   exact⟨⟨_,rfl⟩,.inr ⟨_,by rw[hpre];exact List.prefix_refl _,hJx3⟩⟩
  have t0:(r.size:Int)>0:=by omega
  have t1:(k:Int)≥0:=by omega
  have hw1:wrap64 ((k:Int)+1)=((k+1:Nat):Int):=by have:=HS.out;unfold wrap64;omega
  have b1:((k+1:Nat):Int)<=(r.size:Int):=by omega
  have HI2:=hid (HI.out r)
  rw[hi]at HI2
  have hpre:(pre++ [r.extract 0 (k+1)])++CW (r.extract (k+1) r.size)=CW s:=by rw[List.append_assoc,List.singleton_append,<-hq];exact hp.out
  have e0:=Jj.Gh d0
  gi_wp2
  refine⟨trivial,?_⟩
  gi_at_call 37
  refine(callsIn_wide.2 (HI2.out _)).mono ?_
  rintro e w' ⟨rfl,rfl⟩
  gi_wp2
  gi_region
  obtain⟨fn,tmps,assign,body,hy,hR⟩:=hY pre (r.extract 0 (k+1)) (w'.setCell ⟨b,0,none⟩ (.string (r.extract (k+1) r.size))).drew (hJ _ _ _ (hJ _ _ _ hj.out (AP.setCell (a:=⟨b,0,none⟩) (.string (r.extract (k+1) r.size)) (Or.inl rfl))) (AP.draw _ _ 1)) (by show _<=(World.setCell _ _ _).heap.size;simpa using hsz) ⟨_,hpre⟩
  clear hY
  gi_wp2
  refine(FY _ hR).mono ?_
  rintro e W3 (⟨rfl,hJ3,hk3⟩|⟨rfl,hJx3,-⟩)
  ·have d1:(w'.setCell ⟨b,0,none⟩ (.string (r.extract (k+1) r.size))).drew.cell? ⟨b,0,none⟩=some (.string (r.extract (k+1) r.size)):=World.cell?_setCell_same' _ _ _ (by rw[d0];rfl)
   have d3:W3.cell? ⟨b,0,none⟩=some (.string (r.extract (k+1) r.size)):=hk3.cell (a:=⟨b,0,none⟩) d1 own
   have f3:W3.frozen? ⟨b,0,none⟩=false:=(hk3.frozen (a:=⟨b,0,none⟩) d1 own).trans (by show(World.setCell _ _ _).frozen? _=false;rw[World.frozen?_setCell];exact g0)
   have hs3:W.heap.size<=W3.heap.size:=Nat.le_trans (by show _<=(World.setCell _ _ _).heap.size;simpa using hsz) hk3.size
   clear hR hy own
   gi_wp2
   go_roundw
   case rel=>exact⟨pre++ [r.extract 0 (k+1)],r.extract (k+1) r.size,hpre,hJ3,by rw[ByteArray.size_extract];omega,hs3,d3,f3⟩
   case measure=>rw[e0,Jj.Gh d3,ByteArray.size_extract];omega
  gi_wp2
  refine bodyPost_ret (results_none rfl _ _ _) rfl ?_
  exact⟨⟨_,rfl⟩,.inr ⟨_,⟨_,hpre⟩,hJx3⟩⟩
end Gg
namespace Gg
open Kt
open Kit (Au AX BO CL Ae below_draws on BM Br Aa Ap Bl Az Bb Bh EY Py)
section
variable {s:ByteArray} {w:World}
theorem lT (c:UInt8):CJ c=(((c.toNat:Int)==32)||((c.toNat:Int)==9)):=by
 rw[show((c.toNat:Int)==32)=decide (c=32)from Kit.CG c 32,show((c.toNat:Int)==9)=decide (c=9)from Kit.CG c 9]
 unfold CJ blanks
 by_cases h1:c=32<;>by_cases h2:c=9<;>simp[h1,h2]
theorem YG (c:UInt8) (w:World):Calls Tryz.prog 25 #[.int .u8 c.toNat] w fun e w'=>e= .returned (.bool (CJ c))/\w'=w:=by
 rw[lT]
 cases h1:((c.toNat:Int)==32)with
 |true=>
  go_enter Tryz.func25,Tryz.ntmps25
  go_wp2_with fail
  go_ret
  exact⟨rfl,rfl⟩
 |false=>
  cases h2:((c.toNat:Int)==9)with
  |true=>
   go_enter Tryz.func25,Tryz.ntmps25
   go_wp2_with fail
   go_ret
   exact⟨rfl,rfl⟩
  |false=>
   go_enter Tryz.func25,Tryz.ntmps25
   go_wp2_with fail
   go_ret
   exact⟨rfl,rfl⟩
theorem fO {u:ByteArray} (h:0<u.size):u.data.toList=(u.extract 0 (u.size-1)).data.toList++ [u[u.size-1]]:=by
 rw[Br]
 have:=EY u (u.size-1) (by omega)
 rw[show u.size-1+1=u.size by omega,Py u u.size (by omega)]at this
 exact this
theorem Qg (hs:s.size<=1000000):Calls Tryz.prog 24 #[.string s] w fun e w'=>e= .returned (.string (mk (bare s.data.toList)))/\Below w.heap.size w w':=by
 have HB:=hid YG
 have HS:=hid hs
 clear hs
 go_enter Tryz.func24,Tryz.ntmps24
 go_upto_block 0 with fail
 go_cut [0] (fun s0 wx=> ∃t:ByteArray,s0= .string t/\Hid (t.data.toList=Eh s.data.toList/\t.size<=s.size)/\Hid (Below w.heap.size w wx))
 case first=>
  go_wp2_with fail
  go_loopg [0] s.size (fun gk s0 wr=> ∃t:ByteArray,s0= .string t/\Hid (t.size=gk)/\Hid (Eh t.data.toList=Eh s.data.toList/\t.size<=s.size)/\Hid (Below w.heap.size w wr))
  case atStart=>exact⟨s,rfl,rfl,⟨rfl,Nat.le_refl _⟩,Below.refl _ _⟩
  case round=>
   obtain⟨t,rfl,ht,hl,LR⟩:=hrel
   cases gk with
   |zero=>
    have h0: ¬0<t.size:=by have:=ht.out;omega
    have e1:=Az h0
    have e2:=Bb h0
    have hd:Hid (t.data.toList=Eh s.data.toList/\t.size<=s.size):=⟨by rw[<-hl.out.1,Kit.CX h0];rfl,hl.out.2⟩
    go_wp2_with fail
    go_meet
    exact⟨t,rfl,hd,LR⟩
   |succ gk=>
    have h0:0<t.size:=by have:=ht.out;omega
    have e1:=Ap h0
    have e2:=Bl h0
    have b0:(0:Int)<(t.size:Int):=by omega
    have b1:(1:Int)<=(t.size:Int):=by omega
    cases hb:CJ t[0]with
    |false=>
     have hd:Hid (t.data.toList=Eh s.data.toList/\t.size<=s.size):=⟨by rw[<-hl.out.1,Bh h0,F4 hb],hl.out.2⟩
     have HB0:=hid (HB.out t[0])
     rw[hb]at HB0
     go_wp2_with fail
     refine(HB0.out _).mono ?_
     rintro e w1 ⟨rfl,rfl⟩
     go_wp2_with fail
     go_meet
     exact⟨t,rfl,hd,LR⟩
    |true=>
     have hd:Hid (Eh (t.extract 1 t.size).data.toList=Eh s.data.toList/\(t.extract 1 t.size).size<=s.size):=⟨by rw[<-hl.out.1,Bh h0,Hr hb],by rw[ByteArray.size_extract];have:=hl.out.2;omega⟩
     have HB0:=hid (HB.out t[0])
     rw[hb]at HB0
     go_wp2_with fail
     refine(HB0.out _).mono ?_
     rintro e w1 ⟨rfl,rfl⟩
     go_wp2_with fail
     go_roundg gk
     case measure=>omega
     case rel=>exact⟨_,rfl,by unfold Hid;rw[ByteArray.size_extract];have:=ht.out;omega,hd,LR⟩
 case rest=>
  obtain⟨t,rfl,ht,LR⟩:=hcut
  go_wp2_with fail
  go_loopg [0] t.size (fun gk s0 wr=> ∃u:ByteArray,s0= .string u/\Hid (u.size=gk)/\Hid (Ej u.data.toList=bare s.data.toList/\u.size<=s.size)/\Hid (Below w.heap.size w wr))
  case atStart=>exact⟨t,rfl,rfl,⟨by rw[ht.out.1];rfl,ht.out.2⟩,LR⟩
  case round=>
   clear LR
   obtain⟨u,rfl,hu,hl,LR⟩:=hrel
   cases gk with
   |zero=>
    have h0: ¬0<u.size:=by have:=hu.out;omega
    have e1:=Az h0
    have e2:=Bb h0
    have hd:Hid (u=mk (bare s.data.toList)):=BM (by show _=bare _;rw[<-hl.out.1,Kit.CX h0];rfl)
    go_wp2_with fail
    go_ret
    exact⟨Au hd.out,LR.out⟩
   |succ gk=>
    have h0:0<u.size:=by have:=hu.out;omega
    have e1:=Ap h0
    have e2:=Bl h0
    obtain⟨k,hk⟩: ∃k,u.size-1=k:=⟨_,rfl⟩
    have hk1:u.size=k+1:=by omega
    have wB:wrap64 ((u.size:Int)-1)=(k:Int):=by have:=hl.out.2;have:=HS.out;unfold wrap64;omega
    have b0:(k:Int)<(u.size:Int):=by omega
    have b1:(k:Int)<=(u.size:Int):=by omega
    have hlast:=fO h0
    have hkl:k<u.size:=by omega
    have HLA:Hid (u.data.toList=(u.extract 0 k).data.toList++ [u[k]]):=by
     show _=_
     simpa only[hk]using hlast
    have HK:=hid hk1
    clear hlast hk hk1
    cases hb:CJ u[k]with
    |false=>
     have hd:Hid (u=mk (bare s.data.toList)):=BM (by show _=bare _;rw[<-hl.out.1,HLA.out,Pz,hb];rfl)
     have HB0:=hid (HB.out u[k])
     rw[hb]at HB0
     go_wp2_with fail
     refine(HB0.out _).mono ?_
     rintro e w1 ⟨rfl,rfl⟩
     go_wp2_with fail
     go_ret
     exact⟨Au hd.out,LR.out⟩
    |true=>
     have hd:Hid (Ej (u.extract 0 k).data.toList=bare s.data.toList/\(u.extract 0 k).size<=s.size):=⟨by rw[<-hl.out.1,HLA.out,Pz,hb];rfl,by rw[ByteArray.size_extract];have:=hl.out.2;omega⟩
     have HB0:=hid (HB.out u[k])
     rw[hb]at HB0
     go_wp2_with fail
     refine(HB0.out _).mono ?_
     rintro e w1 ⟨rfl,rfl⟩
     go_wp2_with fail
     go_roundg gk
     case measure=>omega
     case rel=>exact⟨_,rfl,by unfold Hid;rw[ByteArray.size_extract];have:=hu.out;have:=HK.out;omega,hd,LR⟩
end
end Gg
namespace Gg
open Strs Kt
open Kit (Au AX BO CL Ae below_draws on BM Br Aa Ay Ci CF one_byte)
theorem lU {w:World} {base g c k:Nat} {e:TypeId} {xs:List Value} {x:Value} (h:w.ownsRow base e 1 (.slice (some ⟨g,0,none⟩) (k+1) c) (k+1) (xs++ [x])) (y:Value):(w.setCell ⟨g,k,none⟩ y).ownsRow base e 1 (.slice (some ⟨g,0,none⟩) (k+1) c) (k+1) (xs++ [y]):=by
 obtain⟨hl,hr⟩:=h
 have hxs:xs.length=k:=by simpa using hl
 rcases hr with⟨h0,_⟩|⟨g',cap,cur,e1,hb,hh,hn,hcap,hsz,htk⟩
 ·cases h0
 cases e1
 refine⟨by simpa using hl,Or.inr ⟨g,c,cur.setIfInBounds k y,rfl,hb,?_,hn,hcap,by rw[Array.size_setIfInBounds];exact hsz,?_⟩⟩
 ·obtain⟨hlt,hk⟩:=Array.getElem?_eq_some_iff.1 hh
  show(w.heap.modify g _)[g]? =_
  rw[Array.getElem?_eq_getElem (by rw[Array.size_modify];exact hlt),Array.getElem_modify_self,hk]
  rfl
 rw[Array.toList_setIfInBounds,List.take_set,htk,List.set_append_right _ _ (by omega),hxs,Nat.sub_self]
 rfl
theorem BL {w:World} {base k:Nat} {e:TypeId} {v:Value} {xs:List Value} (h:w.ownsRow base e 1 v (k+1) xs): ∃g c,v= .slice (some ⟨g,0,none⟩) (k+1) c/\base<=g/\g<w.heap.size/\k<c/\c<=maxLen/\(∀j u,xs[j]? =some u->w.cell? ⟨g,j,none⟩=some u)/\w.frozen? ⟨g,k,none⟩=false:=by
 have hc:=h
 rcases h.2 with⟨_,h0⟩|⟨g,cap,cur,rfl,hb,hh,hn,hcap,hsz,htk⟩
 ·omega
 refine⟨g,cap,rfl,hb,(Array.getElem?_eq_some_iff.1 hh).1,by omega,hcap,fun j u hj=> ?_,by simp[World.frozen?,hh]⟩
 have:=hc.cells (g:=g) rfl j u hj
 rwa[show(⟨g,0,none⟩:Addr).add j=⟨g,j,none⟩ by unfold Addr.add;split<;>simp_all]at this
section
variable {s:ByteArray} {w:World}
theorem Vy (hs:s.size<=1000000):Calls Tryz.prog 23 #[.string s] w fun e w'=> ∃v,e= .returned v/\w'.ownsRow w.heap.size 9 1 v (lines s.data.toList).length ((lines s.data.toList).map D6)/\Below w.heap.size w w':=by
 obtain⟨i0,hi,hz0,hz1,hz2⟩:=info_parts IZ
 have HS:=hid hs
 obtain⟨L,hL⟩: ∃L,lines s.data.toList=L:=⟨_,rfl⟩
 have HL:Hid (s.data.toList.foldl more [[]]=L):=by unfold Hid;rw[gT];exact hL
 rw[hL]
 clear hs hL
 go_enter Tryz.func23,Tryz.ntmps23
 go_wp2_with fail
 go_loopg [3,4] s.size (fun gk s3 s4 wr=> ∃(i:Nat) (out:List Bytes) (p:ByteArray),s4= .int .i64 i/\Hid (i+gk=s.size)/\Hid (out.length<=i/\p.size<=i)/\Hid ((s.data.toList.drop i).foldl more (out++ [p.data.toList])=L)/\Hid (wr.ownsRow w.heap.size 9 1 s3 (out.length+1) (out.map D6++ [.string p]))/\Hid (Below w.heap.size w wr))
 case atStart=>
  refine⟨0,[],⟨#[]⟩,rfl,by unfold Hid;omega,⟨Nat.le_refl _,Nat.le_refl _⟩,HL,⟨rfl,Or.inr ⟨_,1, #[.string ⟨#[]⟩],rfl,Nat.le_refl _,World.alloc_heap_new w _,Nat.le_refl _,by unfold maxLen;decide,rfl,rfl⟩⟩,(Below.refl _ _).alloc (Nat.le_refl _) _⟩
 case round=>
  obtain⟨i,out,p,rfl,hig,HC,HF,OW,LB⟩:=hrel
  cases gk with
  |zero=>
   have hi2:i=s.size:=by have:=hig.out;omega
   subst hi2
   have ti: ¬(s.size:Int)<(s.size:Int):=by omega
   have hd:Hid (out++ [p.data.toList]=L):=by
    unfold Hid
    rw[<-HF.out,Ci s s.size (by omega)];rfl
   go_wp2_with fail
   go_ret
   refine⟨_,rfl,?_,LB.out⟩
   have h:=Ia OW.out
   rw[hd.out]at h
   exact h
  |succ gk=>
   have hi1:i<s.size:=by have:=hig.out;omega
   have ti:(i:Int)<(s.size:Int):=by omega
   have b0:(0:Int)<=(i:Int):=by omega
   have Va:wrap64 ((i:Int)+1)=((i+1:Nat):Int):=by have:=HS.out;unfold wrap64;omega
   have hdn:=Ay s i hi1
   by_cases hc:s[i]=10
   ·have tc:((s[i].toNat:Int)==10)=true:=by rw[hc];rfl
    have zG:Hid ((s.data.toList.drop (i+1)).foldl more ((out++ [p.data.toList])++ [(⟨#[]⟩:ByteArray).data.toList])=L):=by
     unfold Hid
     rw[<-HF.out,hdn,List.foldl_cons,show more (out++ [p.data.toList]) s[i]=(out++ [p.data.toList])++ [[]]from if_pos hc]
    have hb1:out.length+1+1<=1000002:=by have:=HC.out;have:=HS.out;omega
    clear hdn hc
    go_wp2_with (at_builtin;refine wpList_append_own _ rfl (.tmp 16) (.tmp 17) 23 rfl w.heap.size 9 i0 (.string ⟨#[]⟩) 1 16 Tryz.underlying23 hi hz0 hz1 hz2 rfl (by decide) _ _ _ rfl (OW.out.alloc _) ⟨_,0,none⟩ 1 1 [.string ⟨#[]⟩] rfl rfl (cell_one_new _ _ _) (by intro u hu;simp at hu;subst hu;rfl) (by unfold maxLen;omega) (by omega) (by have:=LB.out.size;simp;omega) ?_;intro v1 w1 hown1 hgrow1 _)
    have L1:=hid (Gn LB.out OW.out hgrow1)
    have O1:=hid (Ia (out:=out) (now:=p) (w:=w1) (base:=w.heap.size) (v:=v1))
    go_roundg gk
    case measure=>omega
    case rel=>
     refine⟨i+1,out++ [p.data.toList],⟨#[]⟩,rfl,by have:=hig.out;unfold Hid;omega,⟨by have:=HC.out;rw[List.length_append];simp;omega,Nat.zero_le _⟩,zG,?_,L1⟩
     unfold Hid
     have e:(out++ [p.data.toList]).map D6=out.map D6++ [.string p]:=by
      rw[List.map_append]
      show _++ [D6 p.data.toList]=_
      unfold D6
      rw[Ae]
     rw[e,List.length_append]
     exact hown1
   have tc:((s[i].toNat:Int)==10)=false:=by
     have h:=Kit.CG s[i] 10
     rw[decide_eq_false hc]at h
     exact h
   have zG:Hid ((s.data.toList.drop (i+1)).foldl more (out++ [(p++s.extract i (i+1)).data.toList])=L):=by
    unfold Hid
    rw[<-HF.out,hdn,List.foldl_cons,show more (out++ [p.data.toList]) s[i]=(out++ [p.data.toList]).dropLast++ [(out++ [p.data.toList]).getLastD []++ [s[i]]]from if_neg hc,CF,one_byte s i hi1]
    simp
   obtain⟨g,c,rfl,hg1,hg2,hc1,hc2,hcell,hfr⟩:=BL OW.out
   obtain⟨k,hk⟩: ∃k,out.length=k:=⟨_,rfl⟩
   have hcl:wr.cell? ⟨g,k,none⟩=some (.string p):=hcell k _ (by rw[<-hk];simp)
   rw[hk]at hc1 hfr OW ⊢
   have wB:wrap64 (((k+1:Nat):Int)-1)=(k:Int):=by have:=HC.out;have:=HS.out;unfold wrap64;omega
   have AAC:wrap64 (k:Int)=(k:Int):=by have:=HC.out;have:=HS.out;unfold wrap64;omega
   have b1:(k:Int)<((k+1:Nat):Int):=by omega
   have b2:((i+1:Nat):Int)<=(s.size:Int):=by omega
   have b4:(i:Int)+1<=(s.size:Int):=by omega
   have hz1:(s.extract i (i+1)).size=1:=Kit.Px s i hi1
   have hpz:(p++s.extract i (i+1)).size<=i+1:=by rw[ByteArray.size_append,hz1];have:=HC.out;omega
   have HPZ:=hid hpz
   have yw: ∀w:World,(Op.stringOp .add p (s.extract i (i+1))).run Tryz.prog w= .ok (.string (p++s.extract i (i+1))) w:=fun w=>run_string_add_sum w _ _ (by rw[hz1];have:=HC.out;have:=HS.out;omega)
   clear hz1 hpz
   have b5:(k:Int)<(k:Int)+1:=by omega
   have b6:(i:Int)<=(i:Int)+1:=by omega
   unfold maxLen at hc2
   have qc:=hid hc2
   have HK:=hid hk
   have OW2:=hid (lU OW.out (.string (p++s.extract i (i+1))))
   have L2:=hid (LB.out.setCell (p:=⟨g,k,none⟩) hg1 (.string (p++s.extract i (i+1))))
   clear hdn hc hcell hc2 hk hg1 hg2 hc1
   go_wp2_with fail
   go_region
   go_wp2_with fail
   go_roundg gk
   case measure=>omega
   case rel=>
    refine⟨i+1,out,p++s.extract i (i+1),congrArg (Value.int .i64) Va,by have:=hig.out;unfold Hid;omega,⟨by have:=HC.out;omega,HPZ.out⟩,zG,?_,L2.out.trans (below_draws _ 1 |>.mono L2.out.size)⟩
    unfold Hid
    rw[HK.out]
    exact OW2.out
end
end Gg
namespace Gg
open Kt
open Kit (Au AX BO CL Ae below_draws on BM Br Aa)
def JA (w:World):Prop:= ∃m:Int,w.cell? ⟨0,0,none⟩=some (.int .i64 m)
theorem JA.on {w w':World} (h:JA w) (hb:Below w.heap.size w w'):JA w':=by
 obtain⟨m,h⟩:=h
 exact⟨m,(hb.cell (World.block_lt_of_cell? w _ h)).trans h⟩
theorem IG (l:Bytes):(mk l).size=l.length:=by rw[Lib.size_eq];rfl
section
variable {s:ByteArray} {w:World}
theorem pY (hs:s.size<=1000) (w:World):Calls Tryz.prog 38 #[.string s,.string ⟨#[32,9]⟩] w fun e w'=>e= .returned (.string (mk (Lib.trimS s.data.toList blanks)))/\Below w.heap.size w w':=
 Any.strings_Trim_laid Tryz.U2 (by kernel_rfl) s ⟨#[32,9]⟩ w (by omega) (by decide) (ascii_of_all (by decide))
theorem lV (hs:s.size<=1000) (w:World):Calls Tryz.prog 41 #[.string s,.string ⟨#[32,9]⟩] w fun e w'=>e= .returned (.string (mk (Lib.trimRightS s.data.toList blanks)))/\Below w.heap.size w w':=
 Any.strings_TrimRight_laid Tryz.mo (by kernel_rfl) s ⟨#[32,9]⟩ w (by omega) (by decide) (ascii_of_all (by decide))
theorem lW (x:UInt8) (hs:s.size<=1000) (hh:JA w):Calls Tryz.prog 40 #[.string s,.string ⟨#[x,35]⟩] w fun e w'=>(∃(b:ByteArray) (c:Bool),e= .returned (.tuple #[.string (mk (Lib.cut s.data.toList [x,35]).1),.string b,.bool c]))/\Below w.heap.size w w':=by
 obtain⟨m,hm⟩:=hh
 refine(Tryz.strings_Cut s ⟨#[x,35]⟩ m w (by omega) hm).mono ?_
 rintro e w' ⟨h,n,rfl⟩
 exact⟨⟨_,_,h⟩,below_draws _ _⟩
theorem lX (l sep:Bytes):(Lib.cut l sep).1.length<=l.length:=by
 unfold Lib.cut
 split
 ·show(l.take _).length<=_
  rw[List.length_take];omega
 exact Nat.le_refl _
theorem lY (hs:s.size<=1000) (hh:JA w):Calls Tryz.prog 20 #[.string s] w fun e w'=>e= .returned (.string (mk (BQ s.data.toList)))/\Below w.heap.size w w':=by
 rw[<-WA]
 unfold QA
 have HT:=hid (pY (s:=s) hs)
 obtain⟨t,ht⟩: ∃t,mk (Lib.trimS s.data.toList blanks)=t:=⟨_,rfl⟩
 have hte:Lib.trimS s.data.toList blanks=t.data.toList:=by rw[<-ht];rfl
 have hts:t.size<=1000:=by
  rw[<-ht,IG,V_]
  have:=ME s.data.toList
  rw[<-Lib.size_eq]at this;omega
 rw[ht]at HT
 rw[hte]
 have HP:=hid (Tryz.strings_HasPrefix t ⟨#[35]⟩)
 rw[show(⟨#[35]⟩:ByteArray).data.toList= [35]from rfl]at HP
 have HH:=hid hh
 cases hp:Lib.hasPrefix t.data.toList [35]with
 |true=>
  rw[hp]at HP
  rw[if_pos rfl]
  clear ht hte hs hts hp hh
  go_enter Tryz.func20,Tryz.ntmps20
  go_wp2_with fail
  refine(HT.out _).mono ?_
  rintro e w1 ⟨rfl,l1⟩
  have L1:=hid l1
  clear l1
  go_wp2_with fail
  refine(HP.out _).mono ?_
  rintro e w2 ⟨rfl,rfl⟩
  go_wp2_with fail
  go_ret
  exact⟨rfl,L1.out⟩
 |false=>
  rw[hp]at HP
  rw[if_neg (by decide)]
  have HA:Hid (∀w,JA w->Calls Tryz.prog 40 #[.string t,.string ⟨#[32,35]⟩] w fun e w'=>(∃(b:ByteArray) (c:Bool),e= .returned (.tuple #[.string (mk (Lib.cut t.data.toList [32,35]).1),.string b,.bool c]))/\Below w.heap.size w w'):=fun w h=>lW 32 hts h
  obtain⟨a,ha⟩: ∃a,mk (Lib.cut t.data.toList [32,35]).1=a:=⟨_,rfl⟩
  have hae:(Lib.cut t.data.toList [32,35]).1=a.data.toList:=by rw[<-ha];rfl
  have has:a.size<=1000:=by
   rw[<-ha,IG]
   have:=lX t.data.toList [32,35]
   rw[<-Lib.size_eq]at this;omega
  rw[ha]at HA
  rw[hae]
  have HB:Hid (∀w,JA w->Calls Tryz.prog 40 #[.string a,.string ⟨#[9,35]⟩] w fun e w'=>(∃(b:ByteArray) (c:Bool),e= .returned (.tuple #[.string (mk (Lib.cut a.data.toList [9,35]).1),.string b,.bool c]))/\Below w.heap.size w w'):=fun w h=>lW 9 has h
  obtain⟨c,hc⟩: ∃c,mk (Lib.cut a.data.toList [9,35]).1=c:=⟨_,rfl⟩
  have hce:(Lib.cut a.data.toList [9,35]).1=c.data.toList:=by rw[<-hc];rfl
  have hcs:c.size<=1000:=by
   rw[<-hc,IG]
   have:=lX a.data.toList [9,35]
   rw[<-Lib.size_eq]at this;omega
  rw[hc]at HB
  rw[hce]
  have HR:=hid (lV (s:=c) hcs)
  clear ht hte hs hts hp hh ha hae has hc hce hcs
  go_enter Tryz.func20,Tryz.ntmps20
  go_wp2_with fail
  refine(HT.out _).mono ?_
  rintro e w1 ⟨rfl,l1⟩
  have L1:=hid l1
  have H1:=hid (HH.out.on l1)
  clear l1
  go_wp2_with fail
  refine(HP.out _).mono ?_
  rintro e w2 ⟨rfl,rfl⟩
  go_wp2_with fail
  refine(HA.out _ H1.out).mono ?_
  rintro e w3 ⟨⟨b3,c3,rfl⟩,l3⟩
  have L3:=hid (on L1.out l3)
  have H3:=hid (H1.out.on l3)
  clear l3
  go_wp2_with fail
  refine(HB.out _ H3.out).mono ?_
  rintro e w4 ⟨⟨b4,c4,rfl⟩,l4⟩
  have L4:=hid (on L3.out l4)
  clear l4
  go_wp2_with fail
  refine(HR.out _).mono ?_
  rintro e w5 ⟨rfl,l5⟩
  have L5:=hid (on L4.out l5)
  clear l5
  go_wp2_with fail
  go_ret
  exact⟨rfl,L5.out⟩
end
end Gg
namespace Gg
open Go.Shelf Range Strs Kt
open Kit (Au AX BO CL Ae below_draws on BM Br Aa Ap Bl Az Bb)
attribute [local go_sem] Oper.semAt_some
def lZ (er:Bytes->Int):Prop:= ∀p:ByteArray,p.size<=900-> ∀w,Calls Tryz.prog 22 #[.string p] w fun e w'=> ∃v,e= .returned (.tuple #[v,.int .i64 (er p.data.toList)])/\Below w.heap.size w w'
def Reads (R:List Bytes×Nat×Int) (w:World) (e:Ending) (w':World):Prop:= ∃v,e= .returned (.tuple #[v,.int .i64 R.2.1,.int .i64 R.2.2])/\Bc w'.heap.size w' v R.1/\Below w.heap.size w w'
def Bo (x:ByteArray):Bytes:=EO x.data.toList
structure PB (W:World) (n:Nat) (v:Value) (k:Int):Prop where
 r0:Boxed W n 23 (.slice none 0 0)
 r1:Boxed W (n+1) 3 (.int .i64 0)
 r2:Boxed W (n+2) 24 (.int .i64 0)
 l:Boxed W (n+3) 23 v
 c:Boxed W (n+4) 3 (.int .i64 k)
theorem PB.turns {W W':World} {n:Nat} {v:Value} {k:Int} {T:Nat->Prop} (h:PB W n v k) (ht:AP T W W') (hT: ∀q,n<=q->q<n+5-> ¬T q):PB W' n v k:=
 ⟨ht.keeps h.r0 (hT _ (by omega) (by omega)),ht.keeps h.r1 (hT _ (by omega) (by omega)),ht.keeps h.r2 (hT _ (by omega) (by omega)),ht.keeps h.l (hT _ (by omega) (by omega)),ht.keeps h.c (hT _ (by omega) (by omega))⟩
theorem PB.count {W:World} {n:Nat} {v:Value} {k k':Int} (h:PB W n v k):PB (W.setCell ⟨n+4,0,none⟩ (.int .i64 k')) n v k':=
 ⟨(heap_setCell_other _ _ _ _ (by show n≠n+4;omega)).trans h.r0,(heap_setCell_other _ _ _ _ (by show n+1≠n+4;omega)).trans h.r1,(heap_setCell_other _ _ _ _ (by show n+2≠n+4;omega)).trans h.r2,(heap_setCell_other _ _ _ _ (by show n+3≠n+4;omega)).trans h.l,h.c.set _⟩
theorem PB.appended {W w1:World} {n m:Nat} {v v':Value} {k:Int} {xs:List Value} {tmp:Obj} (h:PB W n v k) (hrow:W.ownsRow (n+8) 9 1 v m xs) (hg:(W.alloc tmp).grownBy w1 v.ownBlock):PB (w1.setCell ⟨n+3,0,none⟩ v') n v' k:=
 ⟨(heap_setCell_other _ _ _ _ (by show n≠n+3;omega)).trans ((h.r0.alloc tmp).kept hg (h.r0.not_row (by decide) hrow)),(heap_setCell_other _ _ _ _ (by show n+1≠n+3;omega)).trans ((h.r1.alloc tmp).kept hg (h.r1.not_row (by decide) hrow)),
  (heap_setCell_other _ _ _ _ (by show n+2≠n+3;omega)).trans ((h.r2.alloc tmp).kept hg (h.r2.not_row (by decide) hrow)),((h.l.alloc tmp).kept hg (h.l.not_row (by decide) hrow)).set v',(heap_setCell_other _ _ _ _ (by show n+4≠n+3;omega)).trans ((h.c.alloc tmp).kept hg (h.c.not_row (by decide) hrow))⟩
def Mine (n k:Nat):Prop:=n+5<=k/\k<n+8
structure Ji (w0 W:World) (n:Nat) (a b c:Value):Prop where
 r0:Boxed W n 23 a
 r1:Boxed W (n+1) 3 b
 r2:Boxed W (n+2) 24 c
 t:AP (fun k=> ¬Mine n k) w0 W
 l:Below n w0 W
section
variable {w0 W:World} {n:Nat} {a b c:Value}
theorem Ji.set0 (h:Ji w0 W n a b c) (v:Value):Ji w0 (W.setCell ⟨n,0,none⟩ v) n v b c:=
 ⟨h.r0.set v,(heap_setCell_other _ _ _ _ (by show n+1≠n;omega)).trans h.r1,(heap_setCell_other _ _ _ _ (by show n+2≠n;omega)).trans h.r2,h.t.trans (AP.setCell (a:=⟨n,0,none⟩) _ (by show¬Mine n n;unfold Mine;omega)),h.l.setCell (p:=⟨n,0,none⟩) (Nat.le_refl n) v⟩
theorem Ji.set1 (h:Ji w0 W n a b c) (v:Value):Ji w0 (W.setCell ⟨n+1,0,none⟩ v) n a v c:=
 ⟨(heap_setCell_other _ _ _ _ (by show n≠n+1;omega)).trans h.r0,h.r1.set v,(heap_setCell_other _ _ _ _ (by show n+2≠n+1;omega)).trans h.r2,h.t.trans (AP.setCell (a:=⟨n+1,0,none⟩) _ (by show¬Mine n (n+1);unfold Mine;omega)),h.l.setCell (p:=⟨n+1,0,none⟩) (by show n<=n+1;omega) v⟩
theorem Ji.set2 (h:Ji w0 W n a b c) (v:Value):Ji w0 (W.setCell ⟨n+2,0,none⟩ v) n a b v:=
 ⟨(heap_setCell_other _ _ _ _ (by show n≠n+2;omega)).trans h.r0,(heap_setCell_other _ _ _ _ (by show n+1≠n+2;omega)).trans h.r1,h.r2.set v,h.t.trans (AP.setCell (a:=⟨n+2,0,none⟩) _ (by show¬Mine n (n+2);unfold Mine;omega)),h.l.setCell (p:=⟨n+2,0,none⟩) (by show n<=n+2;omega) v⟩
theorem Ji.drew (h:Ji w0 W n a b c):Ji w0 W.drew n a b c:=⟨h.r0,h.r1,h.r2,h.t.trans (AP.draw _ W 1),h.l.trans ⟨rfl,rfl,rfl,Nat.le_refl _,fun _ _=>rfl⟩⟩
theorem PB.wC {v:Value} {k:Int} (h:PB W n v k):Ji W W n (.slice none 0 0) (.int .i64 0) (.int .i64 0):=⟨h.r0,h.r1,h.r2,AP.refl _ _,Below.refl _ _⟩
end
def kept (pre:List ByteArray):List Bytes:=keep (pre.map Bo)
def PI (er:Bytes->Int) (w:World) (n:Nat) (pre:List ByteArray) (W:World):Prop:=
 (∀x∈pre,good er (Bo x))/\ ∃v,PB W n v pre.length/\W.ownsRow (n+8) 9 1 v (kept pre).length ((kept pre).map D6)/\Below n w W
def PX (er:Bytes->Int) (w:World) (n:Nat) (c:Code) (pre:List ByteArray) (W:World):Prop:=
 c= .ret/\ ∃(p0:List ByteArray) (x:ByteArray),pre=p0++ [x]/\(∀x∈p0,good er (Bo x))/\BQ (Bo x)≠ []/\er (BQ (Bo x))≠0/\
  Boxed W n 23 (.slice none 0 0)/\Boxed W (n+1) 3 (.int .i64 (p0.length+1:Nat))/\Boxed W (n+2) 24 (.int .i64 (er (BQ (Bo x))))/\Below n w W
def U6 (w:World) (s:ByteArray):World:=
 (((((w.alloc (.cells #[.slice none 0 0] 23)).alloc (.cells #[.int .i64 0] 3)).alloc (.cells #[.int .i64 0] 24)).alloc (.cells #[.slice none 0 0] 23)).alloc (.cells #[.int .i64 0] 3)).alloc (.cells #[.string s] 9)
theorem six (w:World) (s:ByteArray) {n:Nat} (hn:w.heap.size=n):PB (U6 w s) n (.slice none 0 0) 0/\Boxed (U6 w s) (n+5) 9 (.string s)/\Below n w (U6 w s)/\(U6 w s).heap.size=n+6:=by
 subst hn
 have b0:=Boxed.new w 23 (.slice none 0 0)
 have b1:=Boxed.new (w.alloc (.cells #[.slice none 0 0] 23)) 3 (.int .i64 0)
 have b2:=Boxed.new ((w.alloc (.cells #[.slice none 0 0] 23)).alloc (.cells #[.int .i64 0] 3)) 24 (.int .i64 0)
 have b3:=Boxed.new (((w.alloc (.cells #[.slice none 0 0] 23)).alloc (.cells #[.int .i64 0] 3)).alloc (.cells #[.int .i64 0] 24)) 23 (.slice none 0 0)
 have b4:=Boxed.new ((((w.alloc (.cells #[.slice none 0 0] 23)).alloc (.cells #[.int .i64 0] 3)).alloc (.cells #[.int .i64 0] 24)).alloc (.cells #[.slice none 0 0] 23)) 3 (.int .i64 0)
 have b5:=Boxed.new (((((w.alloc (.cells #[.slice none 0 0] 23)).alloc (.cells #[.int .i64 0] 3)).alloc (.cells #[.int .i64 0] 24)).alloc (.cells #[.slice none 0 0] 23)).alloc (.cells #[.int .i64 0] 3)) 9 (.string s)
 simp only[World.size_alloc]at b1 b2 b3 b4 b5
 exact⟨⟨((((b0.alloc _).alloc _).alloc _).alloc _).alloc _,(((b1.alloc _).alloc _).alloc _).alloc _,((b2.alloc _).alloc _).alloc _,(b3.alloc _).alloc _,b4.alloc _⟩,b5,
  ((((((Below.refl _ w).alloc (Nat.le_refl _) _).alloc (by simp) _).alloc (by simp;omega) _).alloc (by simp;omega) _).alloc (by simp;omega) _).alloc (by simp;omega) _,by unfold U6;simp⟩
theorem Kr {fn:Func} {p q r:Tmp} (h:fn.results= #[.cell p 23,.cell q 3,.cell r 24]) (tmps:Array Value) (w:World) (x y z:Nat) (u v o:Value) (hp:tmps.getD p undef= .pointer (some ⟨x,0,none⟩)) (hq:tmps.getD q undef= .pointer (some ⟨y,0,none⟩)) (hr:tmps.getD r undef= .pointer (some ⟨z,0,none⟩))
    (h1:w.cell? ⟨x,0,none⟩=some u) (h2:w.cell? ⟨y,0,none⟩=some v) (h3:w.cell? ⟨z,0,none⟩=some o):(results fn tmps).run Tryz.prog w= .ok (.tuple #[u,v,o]) w:=by
 rw[Array.getD_eq_getD_getElem?]at hp hq hr
 simp only[results,h]
 simp[Sem.run_bind,Result.andThen,hp,hq,hr,go_sem,h1,h2,h3]
theorem fP {x:ByteArray} (h:BQ (Bo x)= []) (pre:List ByteArray):kept (pre++ [x])=kept pre:=by
 unfold kept;rw[List.map_append];exact Tg h _
theorem lg {x:ByteArray} (h:BQ (Bo x)≠ []) (pre:List ByteArray):kept (pre++ [x])=kept pre++ [BQ (Bo x)]:=by
 unfold kept;rw[List.map_append];exact WE h _
theorem lh (pre:List ByteArray):(kept pre).length<=pre.length:=Nat.le_trans (WG _) (by simp)
theorem Un {er:Bytes->Int} {pre:List ByteArray} {x:ByteArray} (h: ∀y∈pre,good er (Bo y)) (hx:good er (Bo x)): ∀y∈pre++ [x],good er (Bo y):=by
 intro y hy
 rcases List.mem_append.1 hy with hy|hy
 ·exact h y hy
 simp at hy;rw[hy];exact hx
theorem uA {er:Bytes->Int} {w W w3 W':World} {n:Nat} {pre:List ByteArray} {x:ByteArray} {E:Int} {a:Act} (hg: ∀y∈pre,good er (Bo y)) (ho:BQ (Bo x)≠ []) (he:E≠0) (ht:AP (fun k=> ¬Mine n k) W w3) (hl:Below n w w3)
    (h:Ji w3 W' n (.slice none 0 0) (.int .i64 ((pre.length:Int)+1)) (.int .i64 E)) (hE:er (BQ (Bo x))=E:=by rfl):roundEnd (Mine n) (PI er w n) (PX er w n) (pre++ [x]) W .ret a W':=
 ⟨ht.trans h.t,rfl,pre,x,rfl,hg,ho,by rw[hE];exact he,h.r0,h.r1,by rw[hE];exact h.r2,hl.trans h.l⟩
section
variable {s:ByteArray} {w:World} {er:Bytes->Int}
theorem Ff (hO:lZ er) (hs:s.size<=900) (hh:JA w):Calls Tryz.prog 7 #[.string s] w (Reads (go er (lines s.data.toList) 0 []) w):=by
 obtain⟨i0,hi,hz0,hz1,hz2⟩:=info_parts IZ
 have HL:=hid (lS s)
 have HO:=hid hO
 have HH:=hid hh
 rw[<-gN]
 have HC:Hid ((CW s).length<=s.size):=by
  unfold Hid CW
  rw[List.length_map,Lib.size_eq]
  exact OV _
 have HS:=hid hs
 have e0:(ended s.data.toList).map EO=(CW s).map Bo:=by unfold CW;rw[List.map_map];rfl
 rw[e0]
 clear e0 hh hO
 refine(callsIn_wide (n:=9)).1 ?_
 refine callsIn_of_wp_marks Tryz.func7 rfl trivial ?_ rfl
 simp only[Tryz.ntmps7,List.size_toArray,List.length_cons,List.length_nil,Nat.reduceAdd,Nat.reduceSub,Array.replicate_succ,Array.replicate_zero,List.push_toArray,List.append_toArray,List.nil_append,List.cons_append]
 obtain⟨n,hn⟩: ∃n,w.heap.size=n:=⟨_,rfl⟩
 have HN:=hid hn
 gi_wp2
 refine⟨trivial,?_⟩
 gi_at_call 19
 refine(callsIn_wide.2 (HL.out _)).mono ?_
 rintro e w1 ⟨rfl,rfl⟩
 gi_wp2
 obtain⟨hb,h5,hB,hz⟩:=six w s hn
 have HH6:Hid (JA (U6 w s)):=HH.out.on (by rw[hn];exact hB)
 have hU:(((((w.alloc (.cells #[.slice none 0 0] 23)).alloc (.cells #[.int .i64 0] 3)).alloc (.cells #[.int .i64 0] 24)).alloc (.cells #[.slice none 0 0] 23)).alloc (.cells #[.int .i64 0] 3)).alloc (.cells #[.string s] 9)=U6 w s:=rfl
 rw[hU]
 clear hU
 generalize U6 w s=U at*
 refine QF (gf:=36) (lb:= #[.pointer (some ⟨n+5,0,none⟩)]) rfl (enters_of Tryz.func36 (by kernel_rfl) rfl)
  (fM (n+5) s (by omega) U h5.cell h5.frozen (by omega)) (fun k hk=>by have:k=n+5:=hk;omega) rfl
  (Mine n) (fun k=>by unfold Its One Mine;omega) (PI er w n) (PX er w n) ?sI ?sX ⟨by simp,_,hb,World.ownsRow_nil _ _ _ _,hB⟩
  (fun x=> {tmps:= #[.string s,undef,.pointer (some ⟨n,0,none⟩),.pointer (some ⟨n+1,0,none⟩),.pointer (some ⟨n+2,0,none⟩),.pointer (some ⟨n+3,0,none⟩),.pointer (some ⟨n+4,0,none⟩),.string x,undef,undef,undef,.string s,.func (.func 36) #[] #[.pointer (some ⟨n+5,0,none⟩)],.string x,undef,undef,undef,undef,undef,undef,undef,undef,undef,undef,undef,undef,undef,undef,undef,undef,undef,undef,undef,undef,undef],defers:= []}) ?assign ?body ?done ?stop
 case sI=>
  rintro pre A B ⟨h1,v,h2,h3,h4⟩ ht
  have hM: ∀q,Mine n q->n<=q:=fun q hq=>by unfold Mine at hq;omega
  exact⟨h1,v,h2.turns ht (fun q _ h hq=>by unfold Mine at hq;omega),ht.row h3 (by unfold Mine;intro k hk;omega),h4.trans (ht.below hM (by have:=h4.size;omega))⟩
 case sX=>
  rintro c pre A B ⟨h1,p0,x,h2,h3,h4,h5,h6,h7,h8,h9⟩ ht
  have hM: ∀q,Mine n q->n<=q:=fun q hq=>by unfold Mine at hq;omega
  exact⟨h1,p0,x,h2,h3,h4,h5,ht.keeps h6 (by unfold Mine;omega),ht.keeps h7 (by unfold Mine;omega),ht.keeps h8 (by unfold Mine;omega),h9.trans (ht.below hM (by have:=h9.size;omega))⟩
 case assign=>
  intro l x W K hK
  gi_wp2
  exact hK
 case body=>
  rintro l pre x W ⟨hg,v,hb,hrow,hB⟩ hW hpre
  have hle:pre.length+1<=s.size:=by
   have:=hpre.length_le
   have:=HC.out
   rw[List.length_append,List.length_singleton]at*
   omega
  have hxs:x.size<=s.size:=by
   have h1:x∈CW s:=hpre.subset (by simp)
   obtain⟨y,h2,rfl⟩:=List.mem_map.1 h1
   rw[IG,Lib.size_eq]
   exact Tj h2
  have hu:(mk (Bo x)).size<=s.size:=by
   rw[IG]
   have:=WH x.data.toList
   rw[<-Lib.size_eq]at this
   exact Nat.le_trans this hxs
  have hp:(mk (BQ (Bo x))).size<=s.size:=by
   have:=bP (Bo x)
   rw[IG]at*
   omega
  have HT:Hid (∀w,Calls Tryz.prog 21 #[.string x,.string ⟨#[10]⟩] w fun e w'=>e= .returned (.string (mk (Bo x)))/\w'=w):=fun w=>Tryz.strings_TrimSuffix x ⟨#[10]⟩ w (by omega)
  have HV:Hid (∀w,JA w->Calls Tryz.prog 20 #[.string (mk (Bo x))] w fun e w'=>e= .returned (.string (mk (BQ (Bo x))))/\Below w.heap.size w w'):=fun w h=>lY (s:=mk (Bo x)) (by omega) h
  have HP:Hid (∀w,Calls Tryz.prog 22 #[.string (mk (BQ (Bo x)))] w fun e w'=> ∃v,e= .returned (.tuple #[v,.int .i64 (er (BQ (Bo x)))])/\Below w.heap.size w w'):=fun w=>HO.out (mk (BQ (Bo x))) (by omega) w
  have c4:=hb.c.cell
  have f4:=hb.c.frozen
  have hw1:wrap64 ((pre.length:Int)+1)=((pre.length+1:Nat):Int):=by unfold wrap64;omega
  have H1:Hid (JA (W.setCell ⟨n+4,0,none⟩ (.int .i64 ((pre.length+1:Nat):Int)))):=HH.out.on (by rw[hn];exact hB.setCell (p:=⟨n+4,0,none⟩) (by show n<=n+4;omega) _)
  have B1:Hid (PB (W.setCell ⟨n+4,0,none⟩ (.int .i64 ((pre.length+1:Nat):Int))) n v ((pre.length+1:Nat):Int)):=hb.count
  have R1:Hid ((W.setCell ⟨n+4,0,none⟩ (.int .i64 ((pre.length+1:Nat):Int))).ownsRow (n+8) 9 1 v (kept pre).length ((kept pre).map D6)):=hrow.kept (grownBy_setCell' W (n+4) _) (.inr ((hb.c.not_row (by decide) hrow).symm))
  have T1:Hid (AP (fun k=> ¬Mine n k) W (W.setCell ⟨n+4,0,none⟩ (.int .i64 ((pre.length+1:Nat):Int)))):=AP.setCell (a:=⟨n+4,0,none⟩) _ (by show¬Mine n (n+4);unfold Mine;omega)
  have L1:Hid (Below n w (W.setCell ⟨n+4,0,none⟩ (.int .i64 ((pre.length+1:Nat):Int)))):=hB.setCell (p:=⟨n+4,0,none⟩) (by show n<=n+4;omega) _
  have HG:=hid hg
  have Ya:=hid hle
  have HZ:Hid (n+8<=W.heap.size):=by unfold Hid;have:=hW;omega
  clear hb hrow hB hxs hu hp hg hle HO HH
  by_cases ho:BQ (Bo x)= []
  ·have hk:=fP ho pre
   have hgs:=Un HG.out (Or.inl ho)
   rw[ho,show mk []=⟨#[]⟩from rfl]at HV
   gi_wp2
   refine⟨trivial,?_⟩
   gi_at_call 21
   refine(callsIn_wide.2 (HT.out _)).mono ?_
   rintro e w1 ⟨rfl,rfl⟩
   gi_wp2
   refine⟨trivial,?_⟩
   gi_at_call 20
   refine(callsIn_wide.2 (HV.out _ H1.out)).mono ?_
   rintro e w2 ⟨rfl,l2⟩
   gi_wp2
   refine⟨T1.out.trans (AP.new l2),hgs,v,(by rw[show(pre++ [x]).length=pre.length+1 by simp];exact B1.out.turns (AP.new (T:=fun _=>False) l2) fun _ _ _ h=>h),?_,L1.out.trans (l2.mono (by have h:=L1.out.size;rw[HN.out]at h;exact h))⟩
   rw[hk]
   exact(AP.new (T:=fun _=>False) l2).row R1.out (fun _ _ h=>h)
  have hpos:0<(mk (BQ (Bo x))).size:=by
    rw[IG];exact List.length_pos_iff.2 ho
  have h1:=Ap hpos
  have h2:=Bl hpos
  by_cases he:er (BQ (Bo x))=0
  ·have hk:=lg ho pre
   have hgs:=Un HG.out (Or.inr he)
   rw[he]at HP
   gi_wp2
   refine⟨trivial,?_⟩
   gi_at_call 21
   refine(callsIn_wide.2 (HT.out _)).mono ?_
   rintro e w1 ⟨rfl,rfl⟩
   gi_wp2
   refine⟨trivial,?_⟩
   gi_at_call 20
   refine(callsIn_wide.2 (HV.out _ H1.out)).mono ?_
   rintro e w2 ⟨rfl,l2⟩
   gi_wp2
   refine⟨trivial,?_⟩
   gi_at_call 22
   refine(callsIn_wide.2 (HP.out _)).mono ?_
   rintro e w3 ⟨pv,rfl,l3⟩
   have T3:=T1.out.trans (AP.new (on l2 l3))
   have B3:=B1.out.turns (AP.new (T:=fun _=>False) (on l2 l3)) fun _ _ _ h=>h
   have R3:=(AP.new (T:=fun _=>False) (on l2 l3)).row R1.out (fun _ _ h=>h)
   have L3:=hid (L1.out.trans ((on l2 l3).mono (by have h:=L1.out.size;rw[HN.out]at h;exact h)))
   have Z3:n+8<=w3.heap.size:=by have:=HZ.out;have:=(on l2 l3).size;simp at this;omega
   have hkl:=lh pre
   have hle:=Ya.out
   have c3:=B3.l.cell
   have f3:=B3.l.frozen
   obtain⟨pt,hpt⟩: ∃pt,mk (BQ (Bo x))=pt:=⟨_,rfl⟩
   have hpv:D6 (BQ (Bo x))= .string pt:=by rw[<-hpt];rfl
   rw[hpt]at*
   gi_wp2_with (gi_at_builtin;refine wpListIn_append_own _ rfl _ _ 23 rfl (n+8) 9 i0 (.string ⟨#[]⟩) 1 16 Tryz.underlying23 hi hz0 hz1 hz2 rfl (by decide) _ _ _ rfl (R3.alloc _) ⟨w3.heap.size,0,none⟩ 1 1 [.string pt] rfl rfl (cell_one_new _ _ _) (by simp[Value.oneCell']) (by unfold maxLen;omega) (by omega) (by simp;omega) ?_;intro v' w4 hown' hgrow _;obtain⟨g',cap',rfl⟩:=ownsRow_succ hown';obtain⟨hv1,hv2,hr2,ht2,hb2⟩:=Jj.U_ (n0:=n) (T:=Mine n) B3.l (by decide) R3 (by unfold Mine;omega) (by intro k hk;unfold Mine;omega) (by omega) (by omega) hown' hgrow;have hb4:=B3.appended (v':= .slice (some ⟨g',0,none⟩) ((kept pre).length+1) cap') R3 hgrow;have hc1:=hv1.cell;have hf1:=hv1.frozen)
   refine⟨T3.trans ht2,hgs,_,(by rw[show(pre++ [x]).length=pre.length+1 by simp];exact hb4),?_,L3.out.trans hb2⟩
   rw[hk,List.map_append,List.length_append]
   show World.ownsRow _ _ _ _ _ _ (_++ [D6 (BQ (Bo x))])
   rw[hpv]
   exact hr2
  have te:(er (BQ (Bo x)) !=0)=true:=by simpa using he
  have ho':=hid ho
  have he':=hid he
  obtain⟨E,hE⟩: ∃E,er (BQ (Bo x))=E:=⟨_,rfl⟩
  have HE:=hid hE
  rw[hE]at te he' HP
  clear hE
  clear ho he
  gi_wp2
  refine⟨trivial,?_⟩
  gi_at_call 21
  refine(callsIn_wide.2 (HT.out _)).mono ?_
  rintro e w1 ⟨rfl,rfl⟩
  gi_wp2
  refine⟨trivial,?_⟩
  gi_at_call 20
  refine(callsIn_wide.2 (HV.out _ H1.out)).mono ?_
  rintro e w2 ⟨rfl,l2⟩
  gi_wp2
  refine⟨trivial,?_⟩
  gi_at_call 22
  refine(callsIn_wide.2 (HP.out _)).mono ?_
  rintro e w3 ⟨pv,rfl,l3⟩
  have T3:=T1.out.trans (AP.new (on l2 l3))
  have B3:=B1.out.turns (AP.new (T:=fun _=>False) (on l2 l3)) fun _ _ _ h=>h
  have L3:=hid (L1.out.trans ((on l2 l3).mono (by have h:=L1.out.size;rw[HN.out]at h;exact h)))
  have c0:=B3.r0.cell
  have f0:=B3.r0.frozen
  have c1:=B3.r1.cell
  have f1:=B3.r1.frozen
  have c2:=B3.r2.cell
  have f2:=B3.r2.frozen
  have c4:=B3.c.cell
  have O3:=hid B3.wC
  have T4:=hid T3
  clear T3 B3 B1 R1 H1
  gi_wp2
  gi_region
  all_goals gi_wp2
  all_goals
   refine uA HG.out ho'.out he'.out T4.out L3.out ?_ HE.out
   refine Ji.drew ?_
   repeat first|exact O3.out|apply Ji.set0|apply Ji.set1|apply Ji.set2
 case done=>
  rintro W ⟨hg,v,hb,hrow,hB⟩ hK
  have hres:go er ((CW s).map Bo) 0 []=(kept (CW s),0,0):=gP er (by
   intro y hy
   obtain⟨z,h1,rfl⟩:=List.mem_map.1 hy
   exact hg z h1)
  rw[hres]
  have c0:=hb.r0.cell
  have f0:=hb.r0.frozen
  have c1:=hb.r1.cell
  have f1:=hb.r1.frozen
  have c2:=hb.r2.cell
  have f2:=hb.r2.frozen
  have c3:=hb.l.cell
  have O1:=hb.wC.set0 v
  have O3:=hid ((O1.set1 (.int .i64 0)).set2 (.int .i64 0))
  have TX:=hid (Bc.Bw hrow)
  obtain⟨A,c,hv,-,-⟩:=TX.out.form
  have R0:=hid hrow
  have HB:=hid hb
  clear hrow hb
  subst hv
  gi_wp2
  have hK3:=(heap_setCell_other ((W.setCell ⟨n,0,none⟩ (.slice A (kept (CW s)).length c)).setCell ⟨n+1,0,none⟩ (.int .i64 0)) ⟨n+2,0,none⟩ U.heap.size (.int .i64 0) (by show U.heap.size≠n+2;omega)).trans ((heap_setCell_other (W.setCell ⟨n,0,none⟩ (.slice A (kept (CW s)).length c)) ⟨n+1,0,none⟩ U.heap.size (.int .i64 0) (by show U.heap.size≠n+1;omega)).trans ((heap_setCell_other W ⟨n,0,none⟩ U.heap.size _ (by show U.heap.size≠n;omega)).trans hK))
  refine⟨by simp,.inl ⟨_,_,rfl,run_takeDeferred hK3,?_⟩⟩
  have hO:=O3.out
  have HT4:AP (fun k=>k<n+8) W (((W.setCell ⟨n,0,none⟩ (.slice A (kept (CW s)).length c)).setCell ⟨n+1,0,none⟩ (.int .i64 0)).setCell ⟨n+2,0,none⟩ (.int .i64 0)):=
   ((AP.setCell (a:=⟨n,0,none⟩) _ (by show n<n+8;omega)).trans (AP.setCell (a:=⟨n+1,0,none⟩) _ (by show n+1<n+8;omega))).trans (AP.setCell (a:=⟨n+2,0,none⟩) _ (by show n+2<n+8;omega))
  rw[hres]
  generalize ((W.setCell ⟨n,0,none⟩ (.slice A (kept (CW s)).length c)).setCell ⟨n+1,0,none⟩ (.int .i64 0)).setCell ⟨n+2,0,none⟩ (.int .i64 0)=W4 at*
  refine⟨_,Kr rfl _ _ n (n+1) (n+2) _ _ _ rfl rfl rfl (Boxed.cell ((World.putObj_heap_other (by omega)).trans hO.r0)) (Boxed.cell ((World.putObj_heap_other (by omega)).trans hO.r1)) (Boxed.cell ((World.putObj_heap_other (by omega)).trans hO.r2)),_,rfl,?_,?_⟩
  ·exact Bc.Bw ((HT4.trans (AP.putObj _ (by omega))).row R0.out (fun k hk=>by omega))
  rw[HN.out]
  exact hB.trans (hO.l.trans ((AP.putObj (T:=fun k=>n<=k) _ (by omega)).below (fun k hk=>hk) (by have:=hB.size;have:=hO.l.size;omega)))
 case stop=>
  rintro c pre W hpre ⟨rfl,p0,x,rfl,hg,ho,he,h0,h1,h2,hB⟩ hK
  have hres:go er ((CW s).map Bo) 0 []=([],p0.length+1,er (BQ (Bo x))):=by
   obtain⟨rest,hrest⟩:=hpre
   rw[<-hrest,List.append_assoc,List.map_append,List.singleton_append,List.map_cons]
   have:=gQ (er:=er) (pre:=p0.map Bo) (rest:=rest.map Bo) (x:=Bo x) (by
    intro y hy
    obtain⟨z,h1,rfl⟩:=List.mem_map.1 hy
    exact hg z h1) ho he
   rw[this,List.length_map]
  rw[hres]
  gi_wp2
  refine⟨by simp,.inl ⟨_,_,rfl,run_takeDeferred hK,?_⟩⟩
  refine⟨_,Kr rfl _ _ n (n+1) (n+2) _ _ _ rfl rfl rfl (Boxed.cell ((World.putObj_heap_other (by omega)).trans h0)) (Boxed.cell ((World.putObj_heap_other (by omega)).trans h1)) (Boxed.cell ((World.putObj_heap_other (by omega)).trans h2)),_,rfl,KL _ _,?_⟩
  rw[HN.out]
  exact hB.trans ((AP.putObj (T:=fun k=>n<=k) _ (by omega)).below (fun k hk=>hk) (by have:=hB.size;omega))
end
end Gg
end Go.Proofs.YtfgegjinhkgpbaaGreatDoor
