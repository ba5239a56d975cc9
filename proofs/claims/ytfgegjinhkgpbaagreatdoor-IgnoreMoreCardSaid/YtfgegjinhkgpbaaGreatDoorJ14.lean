/-
  Texts joined, in build order, each with its own comment and its own conditions: W15Once, W15Again, W15Kid.
-/
import Derived.Test.YtfgegjinhkgpbaaGreatDoorTake
import Derived.Test.YtfgegjinhkgpbaaGreatDoorJ13
import Derived.Test.YtfgegjinhkgpbaaGreatDoorJ09
namespace Go.Proofs.YtfgegjinhkgpbaaGreatDoor
set_option maxHeartbeats 4000000
set_option maxRecDepth 100000
open Go.RowKit
open Lib (hid)
namespace W15
open Strs Recs M15
open M14 (Piece size sizes)
open W14 (Raw Raws rawA rawC PAt PAll PBox below_new cell_block own_same own_form two_new)
open Row256 (Beside)
open Kit (below_draws on)
theorem IBox.cells {w:World} {b:Nat} {x:Inst} (h:IBox w b x): ∀j,j<4→w.cell? ⟨b,0+j,none⟩=(insC x)[j]? :=by
 intro j hj
 rw[Nat.zero_add,cell_of_row w b j _ _ _ h]
 match j,hj with
 |0,_=>rfl
 |1,_=>rfl
 |2,_=>rfl
 |3,_=>rfl
theorem ibox_put {w w':World} {c:Nat} {x:Inst} {v v':Value} (h:IBox w c x) (hp:Put v v' w w') (hn:v.ownBlock≠some c):IBox w' c x:=by
 obtain⟨-,-,-,-,g5⟩:=hp.grown
 exact(g5 c h.lt (fun q=>hn q.symm)).trans h
theorem IBox.other {w:World} {c b:Nat} {x:Inst} {u:Value} (h:IBox w c x) (hn:c≠b):IBox (w.setCell ⟨b,0,none⟩ u) c x:=(heap_setCell_other w _ c _ hn).trans h
theorem wrap_mid (a:Int) (h: -1000000≤a∧a≤1000000):wrap64 a=a:=by unfold wrap64;omega
def Src (w:World) (g f:Nat) (S:List Inst):Prop:= ∀i (hi:i<S.length),∀j,j<4→w.cell? ⟨g,f*4+i*4+j,none⟩=(insC S[i])[j]?
theorem src_lay {w:World} {b g f:Nat} {v:Value} {L S:List Inst} (h:Lay w b v L) (hg:v.ownBlock=some g) (hS: ∀i (hi:i<S.length),L[f+i]? =some S[i]):Src w g f S:=by
 intro i hi j hj
 have h2:=hS i hi
 have h3:f+i<L.length:=(List.getElem?_eq_some_iff.1 h2).1
 obtain⟨g',c,rfl,-,-⟩:=h.shape (by omega)
 cases hg
 rw[h.own.cellAt _ (by omega)]
 have h4:=flat_at insC_len L (f+i) h3 j hj
 rw[List.getElem?_eq_getElem h3]at h2
 rw[show f*4+i*4+j=(f+i)*4+j by omega,h4,Option.some.inj h2]
theorem Src.keep {w w':World} {g f:Nat} {S:List Inst} (h:Src w g f S) (hk:w'.heap[g]? =w.heap[g]?):Src w' g f S:=fun i hi j hj=>(cell_block hk).trans (h i hi j hj)
theorem Src.next {w1 w2:World} {b g f:Nat} {v v':Value} {L S:List Inst} (h:Src w1 g f S) (hw:g<w1.heap.size) (hb:g≠b) (hp:Put v v' w1 w2) (hl:Lay (w2.setCell ⟨b,0,none⟩ v') b v' L) (hS: ∀i (hi:i<S.length),L[f+i]? =some S[i]):Src (w2.setCell ⟨b,0,none⟩ v') g f S:=by
 by_cases q:v'.ownBlock=some g
 ·exact src_lay hl q hS
 ·exact h.keep ((heap_setCell_other w2 _ g _ hb).trans (hp.kept g hw q))
set_option maxHeartbeats 8000000 in
theorem once_any {w:World} {b:Nat} {v:Value} {P S R:List Inst} (h:Lay w b v (P++(S++R))) (hS:0<S.length) (hl:(P++(S++R)).length+S.length≤8000) (hx: ∀x,x∈S→(0≤x.x∧x.x≤10000)∧(0≤x.y∧x.y≤10000)):
    Calls Tryz.prog 151 #[.pointer (some ⟨b,0,none⟩),.int .i64 P.length,.int .i64 ((P.length+S.length:Nat):Int)] w (Laid b v w (P++(S++R)++S.map (shift (S.length+R.length)))):=by
 have H:=hid h
 have HX:=hid hx
 have HE:=hid (here_any h)
 obtain⟨L,hL⟩: ∃L,P++(S++R)=L:=⟨_,rfl⟩
 obtain⟨f,hf⟩: ∃f,P.length=f:=⟨_,rfl⟩
 obtain⟨n,hn⟩: ∃n,S.length=n:=⟨_,rfl⟩
 obtain⟨d,hd⟩: ∃d,S.length+R.length=d:=⟨_,rfl⟩
 obtain⟨T,hT⟩: ∃T,L.length=T:=⟨_,rfl⟩
 have hTs:T=f+d:=by rw[←hT,←hL,←hf,←hd];simp only[List.length_append]
 have hdn:n≤d:=by omega
 have hSat: ∀i (hi:i<S.length),L[f+i]? =some S[i]:=by
  intro i hi
  rw[←hL,List.getElem?_append_right (by omega),List.getElem?_append_left (by omega),show f+i-P.length=i by omega,List.getElem?_eq_getElem hi]
 rw[hL]at H HE hl
 rw[hT]at HE hl
 obtain⟨g,c,rfl,hc1,hc2⟩:=H.out.shape (by omega)
 rw[hT]at H hc1 ⊢
 have HLT:=hid (H.out.own_gt g rfl)
 have HSRC:=hid (src_lay H.out rfl hSat)
 rw[hL,hf,hn]
 have HSAT:=hid hSat
 have HB0:=hid (show T+n≤8000∧S.length=n∧0<n from⟨by omega,hn,by omega⟩)
 obtain⟨e,he⟩: ∃e,f+n=e:=⟨_,rfl⟩
 rw[he]
 have hw1:wrap64 ((T:Int)-(f:Int))=(d:Int):=wrap64_nat_big (by omega) (by omega)
 have hfc: ¬c=f:=by omega
 have hen:e-f=n:=by omega
 have t1:f≤e:=by omega
 have t2:e≤c:=by omega
 have HTS:Hid (T=f+d):=hTs
 have HD:Hid (n+R.length=d):=by unfold Hid;omega
 have HLT2:Hid (L.length=T):=hT
 rw[HD.out]
 clear h hx hL hf hn hT hSat hS hl he hd hTs hdn
 go_enter Tryz.func151,Tryz.ntmps151
 go_wp2_with fail
 refine HE.out.mono ?_
 rintro e' w1 ⟨rfl,rfl⟩
 have a0:=H.out.box.c0
 go_wp2_with fail
 clear a0 hw1 hfc hen t1 t2
 go_loopg [21] n (fun gk s21 wr=> ∃(i:Nat) (v1:Value),s21= .int .i64 i∧Hid (i+gk=n)∧Hid (Lay wr b v1 (L++(S.take i).map (shift d)))∧Hid (Grow b (.slice (some ⟨g,0,none⟩) T c) v1 w1 wr)∧Hid (Src wr g f S))
 case atStart=>exact⟨0,_,rfl,by unfold Hid;omega,by unfold Hid;simp only[List.take_zero,List.map_nil,List.append_nil];exact H.out,Grow.refl _ _ _,HSRC⟩
 case round=>
  obtain⟨i,v1,rfl,hig,HL1,GG,SS⟩:=hrel
  by_cases hi:i<n
  ·have ti:(i:Int)<(n:Int):=by omega
   have hiS:i<S.length:=by rw[HB0.out.2.1];exact hi
   obtain⟨⟨kx,tx,x0,y0⟩,hx⟩: ∃x,S[i]=x:=⟨_,rfl⟩
   have hb:=HX.out S[i] (List.getElem_mem hiS)
   have hmap:L++(S.take (i+1)).map (shift d)=(L++(S.take i).map (shift d))++ [shift d ⟨kx,tx,x0,y0⟩]:=by
    rw[List.take_succ_eq_append_getElem hiS,hx,List.map_append,List.append_assoc];rfl
   have E1:=hid (SS.out i hiS)
   rw[hx]at E1 hb
   simp only at hb
   obtain⟨Lc,hLc⟩: ∃Lc,L++(S.take i).map (shift d)=Lc:=⟨_,rfl⟩
   have hlen:Lc.length+1≤1000000:=by
    rw[←hLc,List.length_append,List.length_map,List.length_take,HLT2.out]
    have:=HB0.out.1
    omega
   have hSat2: ∀X2:Inst,∀k (hk:k<S.length),(Lc++ [X2])[f+k]? =some S[k]:=by
    intro X2 k hk
    have h1:=HSAT.out k hk
    have h2:f+k<L.length:=(List.getElem?_eq_some_iff.1 h1).1
    rw[←hLc,List.append_assoc,List.getElem?_append_left h2,h1]
   have hsh:shift d ⟨kx,tx,x0,y0⟩=⟨kx,tx,x0+d,if kx=6 then y0+d else y0⟩:=rfl
   rw[hsh]at hmap
   rw[hLc]at HL1 hmap
   have HM:=hid hmap
   have HB:=hid hlen
   have HS2:=hid hSat2
   have hgw:=HLT.out
   obtain⟨xx,hxx⟩: ∃xx,x0+(d:Int)=xx:=⟨_,rfl⟩
   obtain⟨yy,hyy⟩: ∃yy,y0+(d:Int)=yy:=⟨_,rfl⟩
   have hTf:(T:Int)-(f:Int)=(d:Int):=by have:=HTS.out;omega
   have hwx:wrap64 (x0+((T:Int)-(f:Int)))=xx:=by rw[hTf];exact(wrap_mid _ (by have:=HB0.out.1;have:=HD.out;have:=HTS.out;omega)).trans hxx
   have hwy:wrap64 (y0+((T:Int)-(f:Int)))=yy:=by rw[hTf];exact(wrap_mid _ (by have:=HB0.out.1;have:=HD.out;have:=HTS.out;omega)).trans hyy
   rw[hxx,hyy]at HM
   have hwi:Hid (wrap64 ((i:Int)+1)=((i+1:Nat):Int)):=by unfold Hid wrap64;have:=HB0.out;omega
   have HI2:=hid hi
   have HW:=hid GG.out.size
   clear hmap hx hb hlen hSat2 hsh hLc hxx hyy hiS hgw hi hTf
   by_cases hk:kx=6
   ·subst hk
    rw[if_pos rfl]at HM
    go_wp2_with (first
     |(refine load_ins rfl (.tmp 23) rfl rfl (r:=⟨6,tx,x0,y0⟩) E1.out ?_)
     |(refine alloc_ins rfl rfl ?_;intro w3 b3 e3 p3 l3 z3)
     |(refine store_ins (r:=⟨6,tx,x0,y0⟩) rfl (.tmp 8) (.tmp 24) rfl rfl rfl p3 ?_;intro w4 p4 l4 z4;have L4:=hid (two_new l3 l4 e3);have P4:=hid p4;have c0:=p4.c0;have c2:=p4.c2;have c3:=p4.c3;have f2:=p4.free 2;have f3:=p4.free 3;have HB4:=hid e3;clear e3 p3 l3 z3 p4 l4 z4;simp only at c0 c2 c3))
    obtain⟨X2,hX2⟩: ∃X2:Inst,(⟨6,tx,xx,yy⟩:Inst)=X2:=⟨_,rfl⟩
    have i5:IBox ((w4.setCell ⟨b3,2,none⟩ (.int .i64 xx)).setCell ⟨b3,3,none⟩ (.int .i64 yy)) b3 X2:=by rw[←hX2];exact(P4.out.put2 xx).put3 yy
    have bb:Beside b3 w4 ((w4.setCell ⟨b3,2,none⟩ (.int .i64 xx)).setCell ⟨b3,3,none⟩ (.int .i64 yy)):=((Beside.refl b3 w4).put 2 _).put 3 _
    rw[hX2]at HM
    clear c0 c2 c3 f2 f3 hX2 hwx hwy
    generalize ((w4.setCell ⟨b3,2,none⟩ (.int .i64 xx)).setCell ⟨b3,3,none⟩ (.int .i64 yy))=w5 at i5 bb ⊢
    have D5:=hid (below_draws w5 1)
    have I5:Hid (IBox (w5.drewN 1) b3 X2):=i5.below D5.out
    have HB3:Hid (b3≠b):=by unfold Hid;have:=HL1.out.box.lt;have:=HB4.out;omega
    have NB:Hid (v1.ownBlock≠some b3):=by intro q;have:=(HL1.out.own_gt b3 q).2;have:=HB4.out;omega
    have H5:=hid (((HL1.out.below L4.out).other bb HB3.out NB.out).below D5.out)
    have G5:=hid ((((GG.out.trans (Grow.of L4.out)).beside bb (by have:=HB4.out;have:=HW.out;omega)).trans (Grow.of D5.out)))
    have HG:Hid (g<wr.heap.size∧g≠b3∧g≠b):=by unfold Hid;have:=HB4.out;have:=HW.out;have:=HLT.out;exact⟨by omega,by omega,by omega⟩
    have S5:Hid (Src (w5.drewN 1) g f S):=(SS.out.keep (w':=w5.drewN 1) ((bb.block g (Nat.lt_of_lt_of_le HG.out.1 L4.out.size) HG.out.2.1).trans (L4.out.block g HG.out.1)))
    have Z5:Hid (g<(w5.drewN 1).heap.size):=Nat.lt_of_lt_of_le HG.out.1 (Nat.le_trans L4.out.size bb.size)
    have a5:w5.drew.cell? ⟨b,0,none⟩=some v1:=H5.out.box.c0
    clear i5 bb
    refine wp_region_held_drew (S:=fun w'=>IBox w' b3 X2) (by kernel_rfl) I5.out (fun hHeld=> ?_)
    refine Take.k 0 ⟨some 38,.move (.tmp 0),_,_,_,none⟩ ?_
    refine Take.k 1 ⟨some 39,.move (.tmp 0),_,_,_,none⟩ ?_
    refine Take.k 2 ⟨some 40,.nilCheck (.tmp 39),_,_,_,none⟩ ?_
    refine Take.k 3 ⟨some 41,.fieldAddr 104 (.tmp 40) 0,_,_,_,none⟩ ?_
    refine Take.k 5 ⟨some 43,.load 106 (.tmp 8),_,_,_,none⟩ ?_ (hy:=Or.inl ⟨by rfl,by(intro w hSw;(try dsimp only at hSw);refine run_load_ins (.tmp 8) ?_ ?_ hSw.cells<;>rfl)⟩)
    refine wpAnyH_ready (rs:= [4,6]) (by kernel_rfl) (by simp) ?_
    refine AllReadyH.cons (o:=⟨some 42,.load 46 (.tmp 41),_,_,_,none⟩) rfl (fun K hK=> ?_) (AllReadyH.cons (o:=⟨some 44,.buildSlice 46 1 #[(0,.tmp 43)],_,_,_,none⟩) rfl (fun K hK=> ?_) AllReadyH.nil)
    ·go_simp
     skip
     go_wp2_with fail
     refine hK.out _ _ ?_ (fun hHeld=> ?_)
     ·exact I5.out
     clear hK K
     try simp only[Act.put,Take.a,Take.b,Take.c]
     refine wpAnyH_ready (rs:= [6]) (by kernel_rfl) (by simp) ?_
     refine AllReadyH.cons (o:=⟨some 44,.buildSlice 46 1 #[(0,.tmp 43)],_,_,_,none⟩) rfl (fun K hK=> ?_) AllReadyH.nil
     rw[if_pos (by rfl)]
     (refine wp_slice_ins (r:=X2) (.tmp 43) rfl rfl ?_;intro w6 b6 e6 p6 l6 z6 o6;have P6:=hid p6;have L6:=hid l6;clear e6 p6 l6 z6 o6;have a6:=(H5.out.below L6.out).box.c0)
     refine hK.out _ _ ?_ (fun hHeld=> ?_)
     ·exact I5.out.below L6.out
     clear hK K
     try simp only[Act.put,Take.a,Take.b,Take.c]
     refine wpAnyH_ready (rs:= [7]) (by kernel_rfl) (by simp) ?_
     refine AllReadyH.cons (o:=⟨some 45,.call ⟨.builtin .append, #[.tmp 42,.tmp 44], #[46,46]⟩,_,_,_,none⟩) rfl (fun K hK=> ?_) AllReadyH.nil
     rw[if_pos (by rfl)]
     (refine wp_append_ins (.tmp 42) (.tmp 44) rfl rfl rfl (H5.out.below L6.out).own P6.out (by simp only[List.length_cons,List.length_nil];have:=HB.out;omega) (Nat.le_trans H5.out.box.lt L6.out.size) ?_;intro v7 w7 o7 p7;obtain⟨g7,c7,rfl,-,-,-,-⟩:=own_form o7 (by simp);have R7:=hid (H5.out.more L6.out o7 p7);have O7:=hid p7;obtain⟨q7,hq7⟩: ∃q7,(Lc++ [X2]).length=q7:=⟨_,rfl⟩;rw[hq7]at R7 O7 ⊢;clear hq7 o7 p7;have f7:=R7.out.1.free 0;have d7:=R7.out.1.c0)
     refine hK.out _ _ ?_ (fun hHeld=> ?_)
     ·exact ibox_put (I5.out.below L6.out) O7.out NB.out
     clear hK K
     try simp only[Act.put,Take.a,Take.b,Take.c]
     refine Take.k 8 ⟨some 46,.nilCheck (.tmp 38),_,_,_,none⟩ ?_
     refine Take.k 9 ⟨some 47,.fieldAddr 104 (.tmp 46) 0,_,_,_,none⟩ ?_
     refine wpAnyH_ready (rs:= [10]) (by kernel_rfl) (by simp) ?_
     refine AllReadyH.cons (o:=⟨none,.store 46 (.tmp 47) (.tmp 45),_,_,_,none⟩) rfl (fun K hK=> ?_) AllReadyH.nil
     go_simp
     skip
     go_wp2_with fail
     refine hK.out _ _ ?_ (fun hHeld=> ?_)
     ·exact(ibox_put (I5.out.below L6.out) O7.out NB.out).other HB3.out
     clear hK K
     try simp only[Act.put,Take.a,Take.b,Take.c]
     refine wpAnyH_done (by kernel_rfl) ?_ _
     have H8:Hid (Lay (w7.setCell ⟨b,0,none⟩ (.slice (some ⟨g7,0,none⟩) q7 c7)) b (.slice (some ⟨g7,0,none⟩) q7 c7) (L++(S.take (i+1)).map (shift d))):=by unfold Hid;rw[HM.out];exact R7.out.2.1
     have G8:=hid (G5.out.trans R7.out.2.2)
     have S8:=hid ((S5.out.keep (w':=w6) (L6.out.block g Z5.out)).next (Nat.lt_of_lt_of_le Z5.out L6.out.size) HG.out.2.2 O7.out R7.out.2.1 (HS2.out X2))
     clear f7 d7 a6
     cases gk with
     |zero=>exact absurd hig.out (by have:=HI2.out;omega)
     |succ gk=>
      go_wp2_with fail
      go_roundg gk
      case measure=>omega
      case rel=>exact⟨i+1,_,by first|rfl|exact congrArg (Value.int .i64) hwi.out,by have:=hig.out;unfold Hid;omega,H8,G8,S8⟩
    ·rw[if_pos (by rfl)]
     (refine wp_slice_ins (r:=X2) (.tmp 43) rfl rfl ?_;intro w6 b6 e6 p6 l6 z6 o6;have P6:=hid p6;have L6:=hid l6;clear e6 p6 l6 z6 o6;have a6:=(H5.out.below L6.out).box.c0)
     refine hK.out _ _ ?_ (fun hHeld=> ?_)
     ·exact I5.out.below L6.out
     clear hK K
     try simp only[Act.put,Take.a,Take.b,Take.c]
     refine wpAnyH_ready (rs:= [4]) (by kernel_rfl) (by simp) ?_
     refine AllReadyH.cons (o:=⟨some 42,.load 46 (.tmp 41),_,_,_,none⟩) rfl (fun K hK=> ?_) AllReadyH.nil
     go_simp
     skip
     go_wp2_with fail
     refine hK.out _ _ ?_ (fun hHeld=> ?_)
     ·exact I5.out.below L6.out
     clear hK K
     try simp only[Act.put,Take.a,Take.b,Take.c]
     refine wpAnyH_ready (rs:= [7]) (by kernel_rfl) (by simp) ?_
     refine AllReadyH.cons (o:=⟨some 45,.call ⟨.builtin .append, #[.tmp 42,.tmp 44], #[46,46]⟩,_,_,_,none⟩) rfl (fun K hK=> ?_) AllReadyH.nil
     rw[if_pos (by rfl)]
     (refine wp_append_ins (.tmp 42) (.tmp 44) rfl rfl rfl (H5.out.below L6.out).own P6.out (by simp only[List.length_cons,List.length_nil];have:=HB.out;omega) (Nat.le_trans H5.out.box.lt L6.out.size) ?_;intro v7 w7 o7 p7;obtain⟨g7,c7,rfl,-,-,-,-⟩:=own_form o7 (by simp);have R7:=hid (H5.out.more L6.out o7 p7);have O7:=hid p7;obtain⟨q7,hq7⟩: ∃q7,(Lc++ [X2]).length=q7:=⟨_,rfl⟩;rw[hq7]at R7 O7 ⊢;clear hq7 o7 p7;have f7:=R7.out.1.free 0;have d7:=R7.out.1.c0)
     refine hK.out _ _ ?_ (fun hHeld=> ?_)
     ·exact ibox_put (I5.out.below L6.out) O7.out NB.out
     clear hK K
     try simp only[Act.put,Take.a,Take.b,Take.c]
     refine Take.k 8 ⟨some 46,.nilCheck (.tmp 38),_,_,_,none⟩ ?_
     refine Take.k 9 ⟨some 47,.fieldAddr 104 (.tmp 46) 0,_,_,_,none⟩ ?_
     refine wpAnyH_ready (rs:= [10]) (by kernel_rfl) (by simp) ?_
     refine AllReadyH.cons (o:=⟨none,.store 46 (.tmp 47) (.tmp 45),_,_,_,none⟩) rfl (fun K hK=> ?_) AllReadyH.nil
     go_simp
     skip
     go_wp2_with fail
     refine hK.out _ _ ?_ (fun hHeld=> ?_)
     ·exact(ibox_put (I5.out.below L6.out) O7.out NB.out).other HB3.out
     clear hK K
     try simp only[Act.put,Take.a,Take.b,Take.c]
     refine wpAnyH_done (by kernel_rfl) ?_ _
     have H8:Hid (Lay (w7.setCell ⟨b,0,none⟩ (.slice (some ⟨g7,0,none⟩) q7 c7)) b (.slice (some ⟨g7,0,none⟩) q7 c7) (L++(S.take (i+1)).map (shift d))):=by unfold Hid;rw[HM.out];exact R7.out.2.1
     have G8:=hid (G5.out.trans R7.out.2.2)
     have S8:=hid ((S5.out.keep (w':=w6) (L6.out.block g Z5.out)).next (Nat.lt_of_lt_of_le Z5.out L6.out.size) HG.out.2.2 O7.out R7.out.2.1 (HS2.out X2))
     clear f7 d7 a6
     cases gk with
     |zero=>exact absurd hig.out (by have:=HI2.out;omega)
     |succ gk=>
      go_wp2_with fail
      go_roundg gk
      case measure=>omega
      case rel=>exact⟨i+1,_,by first|rfl|exact congrArg (Value.int .i64) hwi.out,by have:=hig.out;unfold Hid;omega,H8,G8,S8⟩
   ·have tk:(kx==6)=false:=by simpa using hk
    rw[if_neg hk]at HM
    go_wp2_with (first
     |(refine load_ins rfl (.tmp 23) rfl rfl (r:=⟨kx,tx,x0,y0⟩) E1.out ?_)
     |(refine alloc_ins rfl rfl ?_;intro w3 b3 e3 p3 l3 z3)
     |(refine store_ins (r:=⟨kx,tx,x0,y0⟩) rfl (.tmp 8) (.tmp 24) rfl rfl rfl p3 ?_;intro w4 p4 l4 z4;have L4:=hid (two_new l3 l4 e3);have P4:=hid p4;have c0:=p4.c0;have c2:=p4.c2;have c3:=p4.c3;have f2:=p4.free 2;have f3:=p4.free 3;have HB4:=hid e3;clear e3 p3 l3 z3 p4 l4 z4;simp only at c0 c2 c3))
    obtain⟨X2,hX2⟩: ∃X2:Inst,(⟨kx,tx,xx,y0⟩:Inst)=X2:=⟨_,rfl⟩
    have i5:IBox (w4.setCell ⟨b3,2,none⟩ (.int .i64 xx)) b3 X2:=by rw[←hX2];exact P4.out.put2 xx
    have bb:Beside b3 w4 (w4.setCell ⟨b3,2,none⟩ (.int .i64 xx)):=(Beside.refl b3 w4).put 2 _
    rw[hX2]at HM
    clear c0 c2 c3 f2 f3 hX2 hwx hwy
    generalize (w4.setCell ⟨b3,2,none⟩ (.int .i64 xx))=w5 at i5 bb ⊢
    have D5:=hid (below_draws w5 1)
    have I5:Hid (IBox (w5.drewN 1) b3 X2):=i5.below D5.out
    have HB3:Hid (b3≠b):=by unfold Hid;have:=HL1.out.box.lt;have:=HB4.out;omega
    have NB:Hid (v1.ownBlock≠some b3):=by intro q;have:=(HL1.out.own_gt b3 q).2;have:=HB4.out;omega
    have H5:=hid (((HL1.out.below L4.out).other bb HB3.out NB.out).below D5.out)
    have G5:=hid ((((GG.out.trans (Grow.of L4.out)).beside bb (by have:=HB4.out;have:=HW.out;omega)).trans (Grow.of D5.out)))
    have HG:Hid (g<wr.heap.size∧g≠b3∧g≠b):=by unfold Hid;have:=HB4.out;have:=HW.out;have:=HLT.out;exact⟨by omega,by omega,by omega⟩
    have S5:Hid (Src (w5.drewN 1) g f S):=(SS.out.keep (w':=w5.drewN 1) ((bb.block g (Nat.lt_of_lt_of_le HG.out.1 L4.out.size) HG.out.2.1).trans (L4.out.block g HG.out.1)))
    have Z5:Hid (g<(w5.drewN 1).heap.size):=Nat.lt_of_lt_of_le HG.out.1 (Nat.le_trans L4.out.size bb.size)
    have a5:w5.drew.cell? ⟨b,0,none⟩=some v1:=H5.out.box.c0
    clear i5 bb
    refine wp_region_held_drew (S:=fun w'=>IBox w' b3 X2) (by kernel_rfl) I5.out (fun hHeld=> ?_)
    refine Take.k 0 ⟨some 38,.move (.tmp 0),_,_,_,none⟩ ?_
    refine Take.k 1 ⟨some 39,.move (.tmp 0),_,_,_,none⟩ ?_
    refine Take.k 2 ⟨some 40,.nilCheck (.tmp 39),_,_,_,none⟩ ?_
    refine Take.k 3 ⟨some 41,.fieldAddr 104 (.tmp 40) 0,_,_,_,none⟩ ?_
    refine Take.k 5 ⟨some 43,.load 106 (.tmp 8),_,_,_,none⟩ ?_ (hy:=Or.inl ⟨by rfl,by(intro w hSw;(try dsimp only at hSw);refine run_load_ins (.tmp 8) ?_ ?_ hSw.cells<;>rfl)⟩)
    refine wpAnyH_ready (rs:= [4,6]) (by kernel_rfl) (by simp) ?_
    refine AllReadyH.cons (o:=⟨some 42,.load 46 (.tmp 41),_,_,_,none⟩) rfl (fun K hK=> ?_) (AllReadyH.cons (o:=⟨some 44,.buildSlice 46 1 #[(0,.tmp 43)],_,_,_,none⟩) rfl (fun K hK=> ?_) AllReadyH.nil)
    ·go_simp
     skip
     go_wp2_with fail
     refine hK.out _ _ ?_ (fun hHeld=> ?_)
     ·exact I5.out
     clear hK K
     try simp only[Act.put,Take.a,Take.b,Take.c]
     refine wpAnyH_ready (rs:= [6]) (by kernel_rfl) (by simp) ?_
     refine AllReadyH.cons (o:=⟨some 44,.buildSlice 46 1 #[(0,.tmp 43)],_,_,_,none⟩) rfl (fun K hK=> ?_) AllReadyH.nil
     rw[if_pos (by rfl)]
     (refine wp_slice_ins (r:=X2) (.tmp 43) rfl rfl ?_;intro w6 b6 e6 p6 l6 z6 o6;have P6:=hid p6;have L6:=hid l6;clear e6 p6 l6 z6 o6;have a6:=(H5.out.below L6.out).box.c0)
     refine hK.out _ _ ?_ (fun hHeld=> ?_)
     ·exact I5.out.below L6.out
     clear hK K
     try simp only[Act.put,Take.a,Take.b,Take.c]
     refine wpAnyH_ready (rs:= [7]) (by kernel_rfl) (by simp) ?_
     refine AllReadyH.cons (o:=⟨some 45,.call ⟨.builtin .append, #[.tmp 42,.tmp 44], #[46,46]⟩,_,_,_,none⟩) rfl (fun K hK=> ?_) AllReadyH.nil
     rw[if_pos (by rfl)]
     (refine wp_append_ins (.tmp 42) (.tmp 44) rfl rfl rfl (H5.out.below L6.out).own P6.out (by simp only[List.length_cons,List.length_nil];have:=HB.out;omega) (Nat.le_trans H5.out.box.lt L6.out.size) ?_;intro v7 w7 o7 p7;obtain⟨g7,c7,rfl,-,-,-,-⟩:=own_form o7 (by simp);have R7:=hid (H5.out.more L6.out o7 p7);have O7:=hid p7;obtain⟨q7,hq7⟩: ∃q7,(Lc++ [X2]).length=q7:=⟨_,rfl⟩;rw[hq7]at R7 O7 ⊢;clear hq7 o7 p7;have f7:=R7.out.1.free 0;have d7:=R7.out.1.c0)
     refine hK.out _ _ ?_ (fun hHeld=> ?_)
     ·exact ibox_put (I5.out.below L6.out) O7.out NB.out
     clear hK K
     try simp only[Act.put,Take.a,Take.b,Take.c]
     refine Take.k 8 ⟨some 46,.nilCheck (.tmp 38),_,_,_,none⟩ ?_
     refine Take.k 9 ⟨some 47,.fieldAddr 104 (.tmp 46) 0,_,_,_,none⟩ ?_
     refine wpAnyH_ready (rs:= [10]) (by kernel_rfl) (by simp) ?_
     refine AllReadyH.cons (o:=⟨none,.store 46 (.tmp 47) (.tmp 45),_,_,_,none⟩) rfl (fun K hK=> ?_) AllReadyH.nil
     go_simp
     skip
     go_wp2_with fail
     refine hK.out _ _ ?_ (fun hHeld=> ?_)
     ·exact(ibox_put (I5.out.below L6.out) O7.out NB.out).other HB3.out
     clear hK K
     try simp only[Act.put,Take.a,Take.b,Take.c]
     refine wpAnyH_done (by kernel_rfl) ?_ _
     have H8:Hid (Lay (w7.setCell ⟨b,0,none⟩ (.slice (some ⟨g7,0,none⟩) q7 c7)) b (.slice (some ⟨g7,0,none⟩) q7 c7) (L++(S.take (i+1)).map (shift d))):=by unfold Hid;rw[HM.out];exact R7.out.2.1
     have G8:=hid (G5.out.trans R7.out.2.2)
     have S8:=hid ((S5.out.keep (w':=w6) (L6.out.block g Z5.out)).next (Nat.lt_of_lt_of_le Z5.out L6.out.size) HG.out.2.2 O7.out R7.out.2.1 (HS2.out X2))
     clear f7 d7 a6
     cases gk with
     |zero=>exact absurd hig.out (by have:=HI2.out;omega)
     |succ gk=>
      go_wp2_with fail
      go_roundg gk
      case measure=>omega
      case rel=>exact⟨i+1,_,by first|rfl|exact congrArg (Value.int .i64) hwi.out,by have:=hig.out;unfold Hid;omega,H8,G8,S8⟩
    ·rw[if_pos (by rfl)]
     (refine wp_slice_ins (r:=X2) (.tmp 43) rfl rfl ?_;intro w6 b6 e6 p6 l6 z6 o6;have P6:=hid p6;have L6:=hid l6;clear e6 p6 l6 z6 o6;have a6:=(H5.out.below L6.out).box.c0)
     refine hK.out _ _ ?_ (fun hHeld=> ?_)
     ·exact I5.out.below L6.out
     clear hK K
     try simp only[Act.put,Take.a,Take.b,Take.c]
     refine wpAnyH_ready (rs:= [4]) (by kernel_rfl) (by simp) ?_
     refine AllReadyH.cons (o:=⟨some 42,.load 46 (.tmp 41),_,_,_,none⟩) rfl (fun K hK=> ?_) AllReadyH.nil
     go_simp
     skip
     go_wp2_with fail
     refine hK.out _ _ ?_ (fun hHeld=> ?_)
     ·exact I5.out.below L6.out
     clear hK K
     try simp only[Act.put,Take.a,Take.b,Take.c]
     refine wpAnyH_ready (rs:= [7]) (by kernel_rfl) (by simp) ?_
     refine AllReadyH.cons (o:=⟨some 45,.call ⟨.builtin .append, #[.tmp 42,.tmp 44], #[46,46]⟩,_,_,_,none⟩) rfl (fun K hK=> ?_) AllReadyH.nil
     rw[if_pos (by rfl)]
     (refine wp_append_ins (.tmp 42) (.tmp 44) rfl rfl rfl (H5.out.below L6.out).own P6.out (by simp only[List.length_cons,List.length_nil];have:=HB.out;omega) (Nat.le_trans H5.out.box.lt L6.out.size) ?_;intro v7 w7 o7 p7;obtain⟨g7,c7,rfl,-,-,-,-⟩:=own_form o7 (by simp);have R7:=hid (H5.out.more L6.out o7 p7);have O7:=hid p7;obtain⟨q7,hq7⟩: ∃q7,(Lc++ [X2]).length=q7:=⟨_,rfl⟩;rw[hq7]at R7 O7 ⊢;clear hq7 o7 p7;have f7:=R7.out.1.free 0;have d7:=R7.out.1.c0)
     refine hK.out _ _ ?_ (fun hHeld=> ?_)
     ·exact ibox_put (I5.out.below L6.out) O7.out NB.out
     clear hK K
     try simp only[Act.put,Take.a,Take.b,Take.c]
     refine Take.k 8 ⟨some 46,.nilCheck (.tmp 38),_,_,_,none⟩ ?_
     refine Take.k 9 ⟨some 47,.fieldAddr 104 (.tmp 46) 0,_,_,_,none⟩ ?_
     refine wpAnyH_ready (rs:= [10]) (by kernel_rfl) (by simp) ?_
     refine AllReadyH.cons (o:=⟨none,.store 46 (.tmp 47) (.tmp 45),_,_,_,none⟩) rfl (fun K hK=> ?_) AllReadyH.nil
     go_simp
     skip
     go_wp2_with fail
     refine hK.out _ _ ?_ (fun hHeld=> ?_)
     ·exact(ibox_put (I5.out.below L6.out) O7.out NB.out).other HB3.out
     clear hK K
     try simp only[Act.put,Take.a,Take.b,Take.c]
     refine wpAnyH_done (by kernel_rfl) ?_ _
     have H8:Hid (Lay (w7.setCell ⟨b,0,none⟩ (.slice (some ⟨g7,0,none⟩) q7 c7)) b (.slice (some ⟨g7,0,none⟩) q7 c7) (L++(S.take (i+1)).map (shift d))):=by unfold Hid;rw[HM.out];exact R7.out.2.1
     have G8:=hid (G5.out.trans R7.out.2.2)
     have S8:=hid ((S5.out.keep (w':=w6) (L6.out.block g Z5.out)).next (Nat.lt_of_lt_of_le Z5.out L6.out.size) HG.out.2.2 O7.out R7.out.2.1 (HS2.out X2))
     clear f7 d7 a6
     cases gk with
     |zero=>exact absurd hig.out (by have:=HI2.out;omega)
     |succ gk=>
      go_wp2_with fail
      go_roundg gk
      case measure=>omega
      case rel=>exact⟨i+1,_,by first|rfl|exact congrArg (Value.int .i64) hwi.out,by have:=hig.out;unfold Hid;omega,H8,G8,S8⟩
  ·have ti: ¬(i:Int)<(n:Int):=by omega
   have hie:i=n:=by have:=hig.out;omega
   have HL2:Hid (Lay wr b v1 (L++S.map (shift d))):=by
    have:=HL1.out
    rw[hie,←HB0.out.2.1,List.take_length]at this
    exact this
   clear hie hi
   go_wp2_with fail
   go_end0
   exact⟨rfl,v1,HL2.out,GG.out⟩
end W15
namespace W15
open Strs Recs M15
open M14 (Piece size sizes)
open W14 (Raw Raws rawA rawC PAt PAll PBox below_new cell_block own_same own_form box_arg load_piece two_new)
open Row256 (Beside)
open Kit (below_draws on)
theorem once_none {w:World} {b f:Nat} {v:Value} {L:List Inst} (h:Lay w b v L) (hf:f≤L.length):
    Calls Tryz.prog 151 #[.pointer (some ⟨b,0,none⟩),.int .i64 f,.int .i64 f] w (Laid b v w L):=by
 have H:=hid h
 have HE:=hid (here_any h)
 obtain⟨A,c,rfl,hc1,hc2⟩:=h.form
 have a0:=h.box.c0
 obtain⟨T,hT⟩: ∃T,L.length=T:=⟨_,rfl⟩
 rw[hT]at HE hc1 a0 hf
 unfold maxLen at hc2
 have t1:f≤c:=by omega
 clear h hT
 by_cases q:c=f
 ·go_enter Tryz.func151,Tryz.ntmps151
  go_wp2_with fail
  refine HE.out.mono ?_
  rintro e' w1 ⟨rfl,rfl⟩
  go_wp2_with fail
  go_loopg [21] 1 (fun gk s21 wr=>s21= .int .i64 0∧wr=w1)
  case atStart=>exact⟨rfl,rfl⟩
  case round=>
   obtain⟨rfl,rfl⟩:=hrel
   go_wp2_with fail
   go_end0
   exact⟨rfl,_,H.out,Grow.refl _ _ _⟩
 ·go_enter Tryz.func151,Tryz.ntmps151
  go_wp2_with fail
  refine HE.out.mono ?_
  rintro e' w1 ⟨rfl,rfl⟩
  go_wp2_with fail
  go_loopg [21] 1 (fun gk s21 wr=>s21= .int .i64 0∧wr=w1)
  case atStart=>exact⟨rfl,rfl⟩
  case round=>
   obtain⟨rfl,rfl⟩:=hrel
   go_wp2_with fail
   go_end0
   exact⟨rfl,_,H.out,Grow.refl _ _ _⟩
structure Again (w:World) (b c2 c3 c5 c6 c7:Nat) (r:Raw) (laid:Bool) (f e:Nat):Prop where
 b2:w.heap[c2]? =some (.cells #[.pointer (some ⟨b,0,none⟩)] 99 (0,0))
 b3:PBox w c3 r
 b5:w.heap[c5]? =some (.cells #[.int .i64 f] 3 (0,0))
 b6:w.heap[c6]? =some (.cells #[.int .i64 e] 3 (0,0))
 b7:w.heap[c7]? =some (.cells #[.bool laid] 4 (0,0))
abbrev kidV (c2 c3 c5 c6 c7:Nat):Value:= .func (.func 150) #[] #[.pointer (some ⟨c7,0,none⟩),.pointer (some ⟨c2,0,none⟩),.pointer (some ⟨c5,0,none⟩),.pointer (some ⟨c6,0,none⟩),.pointer (some ⟨c3,0,none⟩)]
def Five (b c2 c3 c5 c6 c7:Nat):Prop:=b<c2∧c2<c3∧c3<c5∧c5<c6∧c6<c7
section
variable {w w' w'':World} {b c2 c3 c5 c6 c7 f e:Nat} {r:Raw} {laid:Bool} {v v' v'':Value} {L:List Inst}
structure Turn (b c5 c6 c7:Nat) (v v':Value) (w w':World):Prop where
 os:w'.os=w.os
 tape:w'.tape=w.tape
 output:w'.output=w.output
 size:w.heap.size≤w'.heap.size
 block: ∀k,k<w.heap.size→k≠b→v.ownBlock≠some k→k≠c5→k≠c6→k≠c7→w'.heap[k]? =w.heap[k]?
 own: ∀k,v'.ownBlock=some k→v.ownBlock=some k∨w.heap.size≤k
theorem Turn.of (h:Grow b v v' w w'):Turn b c5 c6 c7 v v' w w':=⟨h.os,h.tape,h.output,h.size,fun k h1 h2 h3 _ _ _=>h.block k h1 h2 h3,h.own⟩
theorem Turn.trans (h:Turn b c5 c6 c7 v v' w w') (k:Turn b c5 c6 c7 v' v'' w' w''):Turn b c5 c6 c7 v v'' w w'':=
 ⟨k.os.trans h.os,k.tape.trans h.tape,k.output.trans h.output,Nat.le_trans h.size k.size,fun i hi e1 e2 e3 e4 e5=>(k.block i (Nat.lt_of_lt_of_le hi h.size) e1 (fun q=>by
  rcases h.own i q with q2|q2
  ·exact e2 q2
  ·omega) e3 e4 e5).trans (h.block i hi e1 e2 e3 e4 e5),fun i hi=>by
  rcases k.own i hi with q|q
  ·exact h.own i q
  ·exact Or.inr (Nat.le_trans h.size q)⟩
theorem Turn.put (w:World) (v:Value) (b:Nat) {c5 c6 c7 c:Nat} (hc:c=c5∨c=c6∨c=c7) (u:Value):Turn b c5 c6 c7 v v w (w.setCell ⟨c,0,none⟩ u):=
 ⟨rfl,rfl,rfl,by rw[World.size_setCell];exact Nat.le_refl _,fun k _ _ _ e3 e4 e5=>heap_setCell_other w _ k _ (show k≠c by omega),fun k hk=>Or.inl hk⟩
theorem Grow.turn {w0:World} (h:Grow b v v' w0 w) (k:Turn b c5 c6 c7 v' v'' w w') (h5:w0.heap.size≤c5) (h6:w0.heap.size≤c6) (h7:w0.heap.size≤c7):Grow b v v'' w0 w':=
 ⟨k.os.trans h.os,k.tape.trans h.tape,k.output.trans h.output,Nat.le_trans h.size k.size,fun i hi e1 e2=>(k.block i (Nat.lt_of_lt_of_le hi h.size) e1 (fun q=>by
  rcases h.own i q with q2|q2
  ·exact e2 q2
  ·omega) (by omega) (by omega) (by omega)).trans (h.block i hi e1 e2),fun i hi=>by
  rcases k.own i hi with q|q
  ·exact h.own i q
  ·exact Or.inr (Nat.le_trans h.size q)⟩
theorem other_type {c:Nat} {cs:Array Value} {t:TypeId} {fr:Nat×Nat} (hl:Lay w b v L) (h:w.heap[c]? =some (.cells cs t fr)) (ht:t≠106):v.ownBlock≠some c:=by
 intro q
 obtain⟨cur,h1⟩:=own_type hl.own q
 rw[h]at h1
 injection h1 with h1
 injection h1 with _ h1
 exact ht h1
theorem lt_of_block {c:Nat} {o:Obj} (h:w.heap[c]? =some o):c<w.heap.size:=(Array.getElem?_eq_some_iff.1 h).1
theorem Again.keep (h:Again w b c2 c3 c5 c6 c7 r laid f e) (hk: ∀c o,w.heap[c]? =some o→(c=c2∨c=c3∨c=c5∨c=c6∨c=c7)→w'.heap[c]? =w.heap[c]?):Again w' b c2 c3 c5 c6 c7 r laid f e:=
 ⟨(hk c2 _ h.b2 (by simp)).trans h.b2,(hk c3 _ h.b3 (by simp)).trans h.b3,(hk c5 _ h.b5 (by simp)).trans h.b5,(hk c6 _ h.b6 (by simp)).trans h.b6,(hk c7 _ h.b7 (by simp)).trans h.b7⟩
theorem Again.below (h:Again w b c2 c3 c5 c6 c7 r laid f e) (hb:Below w.heap.size w w'):Again w' b c2 c3 c5 c6 c7 r laid f e:=h.keep fun c _ ho _=>hb.block c (lt_of_block ho)
theorem Again.not_own (h:Again w b c2 c3 c5 c6 c7 r laid f e) (hl:Lay w b v L) {c:Nat} (hc:c=c2∨c=c3∨c=c5∨c=c6∨c=c7):v.ownBlock≠some c:=by
 rcases hc with rfl|rfl|rfl|rfl|rfl
 ·exact other_type hl h.b2 (by decide)
 ·exact other_type hl h.b3 (by decide)
 ·exact other_type hl h.b5 (by decide)
 ·exact other_type hl h.b6 (by decide)
 ·exact other_type hl h.b7 (by decide)
theorem Again.grow (h:Again w b c2 c3 c5 c6 c7 r laid f e) (h5:Five b c2 c3 c5 c6 c7) (hl:Lay w b v L) (hg:Grow b v v' w w'):Again w' b c2 c3 c5 c6 c7 r laid f e:=
 h.keep fun c _ ho hc=>hg.block c (lt_of_block ho) (by unfold Five at h5;omega) (h.not_own hl hc)
theorem Again.nums {base:Nat} {M:List Nat} {u u':Value} (h:Again w b c2 c3 c5 c6 c7 r laid f e) (h5:Five b c2 c3 c5 c6 c7) (hn:Nums base w u M) (hb:c7<base) (hp:Put u u' w w'):Again w' b c2 c3 c5 c6 c7 r laid f e:=by
 obtain⟨-,-,-,-,g5⟩:=hp.grown
 exact h.keep fun c _ ho hc=>g5 c (lt_of_block ho) (fun q=>by have:=(hn.lt c q.symm).1;unfold Five at h5;omega)
theorem Nums.turn {base:Nat} {M:List Nat} {u:Value} (hn:Nums base w u M) (h5:Five b c2 c3 c5 c6 c7) (hb:c7<base) (hl:Lay w b v L) (ht:Turn b c5 c6 c7 v v' w w'):Nums base w' u M:=
 own_block_same hn fun k hk=>by
  have h1:=(hn.lt k hk).1
  unfold Five at h5
  exact ht.block k (hn.lt k hk).2 (by omega) (hn.apart hl hk) (by omega) (by omega) (by omega)
theorem Turn.piece (h:Turn b c5 c6 c7 v v' w w') (h5:Five b c2 c3 c5 c6 c7) (hl:Lay w b v L) {r:Raw} {p:Piece} (hp:PAt (fun k=>k<b) w r p):PAt (fun k=>k<b) w' r p:=
 hp.keep (fun _ q=>q) fun a (q:a.block<b)=>by
  unfold Five at h5
  exact cell_block (h.block _ (Nat.lt_trans q hl.box.lt) (by omega) (fun q2=>by have:=(hl.own_gt _ q2).1;omega) (by omega) (by omega) (by omega))
theorem Turn.boxed (h:Turn b c5 c6 c7 v v' w w') (hl:Lay w b v L) {c:Nat} {r:Raw} (hp:PBox w c r) (h1:c≠b) (h2:c≠c5∧c≠c6∧c≠c7):PBox w' c r:=
 (h.block c hp.lt h1 (other_type hl hp (by decide)) h2.1 h2.2.1 h2.2.2).trans hp
end
theorem again_any {w:World} {b:Nat} {r:Raw} (hb:b<w.heap.size):Calls Tryz.prog 134 #[.pointer (some ⟨b,0,none⟩),.agg (rawA r)] w (fun e w'=> ∃c2 c3 c5 c6 c7,e= .returned (kidV c2 c3 c5 c6 c7)∧w.heap.size≤c2∧c7<w'.heap.size∧Five b c2 c3 c5 c6 c7∧Again w' b c2 c3 c5 c6 c7 r false 0 0∧Below w.heap.size w w'):=by
 have HB:=hid hb
 clear hb
 go_enter Tryz.func134,Tryz.ntmps134
 go_wp2_with (first
  |(refine box_arg (r:=r) rfl (.tmp 1) rfl rfl ?_;intro w1 b1 e1 p1 l1 z1;have P1:=hid p1;have L1:=hid l1;have E1:=hid e1;have Z1:=hid z1;clear e1 p1 l1 z1))
 go_ret
 have e1:=E1.out
 have z1:=Z1.out
 rw[World.size_alloc]at e1 z1
 have q0:=heap_alloc_new w (Obj.cells #[.pointer (some ⟨b,0,none⟩)] 99)
 refine⟨w.heap.size,b1,w1.heap.size,w1.heap.size+1,w1.heap.size+1+1,rfl,Nat.le_refl _,?_,⟨HB.out,by omega,by omega,by omega,by omega⟩,⟨?_,?_,?_,?_,?_⟩,?_⟩
 ·simp only[World.size_alloc];omega
 ·rw[heap_alloc_old _ _ (by simp only[World.size_alloc];omega),heap_alloc_old _ _ (by simp only[World.size_alloc];omega),heap_alloc_old _ _ (by omega),L1.out.block _ (by rw[World.size_alloc];omega)]
  exact q0
 ·unfold PBox
  rw[heap_alloc_old _ _ (by simp only[World.size_alloc];omega),heap_alloc_old _ _ (by simp only[World.size_alloc];omega),heap_alloc_old _ _ (by omega)]
  exact P1.out
 ·rw[heap_alloc_old _ _ (by simp only[World.size_alloc];omega),heap_alloc_old _ _ (by simp only[World.size_alloc];omega)]
  exact heap_alloc_new w1 _
 ·rw[heap_alloc_old _ _ (by simp only[World.size_alloc];omega)]
  have:=heap_alloc_new (w1.alloc (Obj.cells #[.int .i64 0] 3)) (Obj.cells #[.int .i64 0] 3)
  rw[World.size_alloc]at this
  exact this
 ·have:=heap_alloc_new ((w1.alloc (Obj.cells #[.int .i64 0] 3)).alloc (Obj.cells #[.int .i64 0] 3)) (Obj.cells #[.bool false] 4)
  rw[World.size_alloc,World.size_alloc]at this
  exact this
 ·have h1:Below w.heap.size w w1:=(below_new w _).trans (L1.out.mono (by rw[World.size_alloc];omega))
  exact((h1.alloc h1.size _).alloc (by rw[World.size_alloc];omega) _).alloc (by rw[World.size_alloc,World.size_alloc];omega) _
end W15
namespace W15
open Strs Recs M15
open M14 (Piece size sizes)
open W14 (Raw Raws rawA rawC PAt PAll PBox below_new cell_block own_same own_form box_arg load_piece two_new)
open Row256 (Beside)
open Kit (below_draws on)
def Cons (laid:Bool) (f e:Nat) (L:List Inst) (p:Piece):Prop:=laid=true→ ∃P R,L=P++(steps p f++R)∧P.length=f∧e=f+(steps p f).length
theorem Cons.more {laid:Bool} {f e:Nat} {L:List Inst} {p:Piece} (h:Cons laid f e L p) (M:List Inst):Cons laid f e (L++M) p:=fun hl=>by
 obtain⟨P,R,rfl,h1,h2⟩:=h hl
 exact⟨P,R++M,by simp only[List.append_assoc],h1,h2⟩
def Kid (b c2 c3 c5 c6 c7:Nat) (r:Raw) (p:Piece) (v:Value) (w:World) (L:List Inst) (e:Ending) (w':World):Prop:=
 e= .returned (.tuple #[])∧ ∃v' f e',Lay w' b v' (L++steps p L.length)∧Turn b c5 c6 c7 v v' w w'∧Again w' b c2 c3 c5 c6 c7 r true f e'∧Cons true f e' (L++steps p L.length) p
section
variable {w w':World} {b c2 c3 c5 c6 c7 f e:Nat} {r:Raw} {laid:Bool} {v v':Value} {L:List Inst} {p:Piece}
theorem cell0 {c:Nat} {t:TypeId} {u:Value} (h:w.heap[c]? =some (.cells #[u] t (0,0))):w.cell? ⟨c,0,none⟩=some u∧w.frozen? ⟨c,0,none⟩=false:=⟨cell_of_row w c 0 _ _ _ h,frozen_of_row w c 0 _ _ h⟩
theorem put_block {c:Nat} {t:TypeId} {u:Value} (h:w.heap[c]? =some (.cells #[u] t (0,0))) (u':Value):(w.setCell ⟨c,0,none⟩ u').heap[c]? =some (.cells #[u'] t (0,0)):=by
 rw[heap_setCell_same w c 0 _ _ _ h];rfl
theorem Again.put5 (h:Again w b c2 c3 c5 c6 c7 r laid f e) (h5:Five b c2 c3 c5 c6 c7) (n:Nat):Again (w.setCell ⟨c5,0,none⟩ (.int .i64 n)) b c2 c3 c5 c6 c7 r laid n e:=by
 unfold Five at h5
 exact⟨(heap_setCell_other w _ c2 _ (show c2≠c5 by omega)).trans h.b2,(heap_setCell_other w _ c3 _ (show c3≠c5 by omega)).trans h.b3,put_block h.b5 _,(heap_setCell_other w _ c6 _ (show c6≠c5 by omega)).trans h.b6,(heap_setCell_other w _ c7 _ (show c7≠c5 by omega)).trans h.b7⟩
theorem Again.put6 (h:Again w b c2 c3 c5 c6 c7 r laid f e) (h5:Five b c2 c3 c5 c6 c7) (n:Nat):Again (w.setCell ⟨c6,0,none⟩ (.int .i64 n)) b c2 c3 c5 c6 c7 r laid f n:=by
 unfold Five at h5
 exact⟨(heap_setCell_other w _ c2 _ (show c2≠c6 by omega)).trans h.b2,(heap_setCell_other w _ c3 _ (show c3≠c6 by omega)).trans h.b3,(heap_setCell_other w _ c5 _ (show c5≠c6 by omega)).trans h.b5,put_block h.b6 _,(heap_setCell_other w _ c7 _ (show c7≠c6 by omega)).trans h.b7⟩
theorem Again.put7 (h:Again w b c2 c3 c5 c6 c7 r laid f e) (h5:Five b c2 c3 c5 c6 c7) (l:Bool):Again (w.setCell ⟨c7,0,none⟩ (.bool l)) b c2 c3 c5 c6 c7 r l f e:=by
 unfold Five at h5
 exact⟨(heap_setCell_other w _ c2 _ (show c2≠c7 by omega)).trans h.b2,(heap_setCell_other w _ c3 _ (show c3≠c7 by omega)).trans h.b3,(heap_setCell_other w _ c5 _ (show c5≠c7 by omega)).trans h.b5,(heap_setCell_other w _ c6 _ (show c6≠c7 by omega)).trans h.b6,put_block h.b7 _⟩
theorem Lay.put_box (hl:Lay w b v L) {c:Nat} (hc:c≠b) (ho:v.ownBlock≠some c) (u:Value):Lay (w.setCell ⟨c,0,none⟩ u) b v L:=hl.other ((Beside.refl c w).put 0 u) hc ho
theorem kid_first (IH:LayOk p) (h:Lay w b v L) (ha:Again w b c2 c3 c5 c6 c7 r false f e) (h5:Five b c2 c3 c5 c6 c7) (hp:PAt (fun k=>k<b) w r p) (hl:L.length+size p≤4000):
    Calls Tryz.prog 150 #[.pointer (some ⟨c7,0,none⟩),.pointer (some ⟨c2,0,none⟩),.pointer (some ⟨c5,0,none⟩),.pointer (some ⟨c6,0,none⟩),.pointer (some ⟨c3,0,none⟩)] w (Kid b c2 c3 c5 c6 c7 r p v w L):=by
 have H:=hid h
 have HA:=hid ha
 have H5:=hid h5
 have HLEN:Hid ((L++steps p L.length).length=L.length+(steps p L.length).length):=List.length_append
 have HC:Hid (∀(w:World) (v:Value),Lay w b v L→PAt (fun k=>k<b) w r p→Calls Tryz.prog 77 #[.pointer (some ⟨b,0,none⟩),.agg (rawA r)] w (Laid b v w (L++steps p L.length))):=fun w v h1 h2=>IH w b v L r h1 h2 hl
 have HP:=hid hp
 obtain⟨N,hN⟩: ∃N,L.length=N:=⟨_,rfl⟩
 obtain⟨E,hE⟩: ∃E,N+(steps p L.length).length=E:=⟨_,rfl⟩
 have HN:=hid hN
 have HE:=hid hE
 obtain⟨c7a,c7b⟩:=cell0 ha.b7
 obtain⟨c5a,c5b⟩:=cell0 ha.b5
 obtain⟨c2a,-⟩:=cell0 ha.b2
 have n1: ¬c5=c7:=by unfold Five at h5;omega
 have n2: ¬c7=c5:=by unfold Five at h5;omega
 have n3: ¬c2=c5:=by unfold Five at h5;omega
 have n4: ¬c2=c7:=by unfold Five at h5;omega
 have n5: ¬c5=c2:=by unfold Five at h5;omega
 have n6: ¬c7=c2:=by unfold Five at h5;omega
 have HH:=hid (here_any h)
 rw[hN]at HH
 clear h ha h5 hp IH hl hN hE
 go_enter Tryz.func150,Tryz.ntmps150
 go_wp2_with fail
 refine HH.out.mono ?_
 rintro e1 w1 ⟨rfl,rfl⟩
 have A2:=hid ((HA.out.put5 H5.out N).put7 H5.out true)
 have L2:=hid ((H.out.put_box (c:=c5) (by have:=H5.out;unfold Five at this;omega) (HA.out.not_own H.out (by simp)) (.int .i64 N)).put_box (c:=c7) (by have:=H5.out;unfold Five at this;omega) ((HA.out.put5 H5.out N).not_own (H.out.put_box (c:=c5) (by have:=H5.out;unfold Five at this;omega) (HA.out.not_own H.out (by simp)) (.int .i64 N)) (by simp)) (.bool true))
 have T2:Hid (Turn b c5 c6 c7 v v w1 ((w1.setCell ⟨c5,0,none⟩ (.int .i64 N)).setCell ⟨c7,0,none⟩ (.bool true))):=(Turn.put w1 v b (.inl rfl) _).trans (Turn.put _ v b (.inr (.inr rfl)) _)
 have P2:=hid (T2.out.piece H5.out H.out HP.out)
 go_wp2_with (first|(refine load_piece (r:=r) rfl (.tmp 4) rfl rfl A2.out.b3 ?_))
 refine(HC.out _ _ L2.out P2.out).mono ?_
 rintro e2 w3 ⟨rfl,v3,h3,g3⟩
 have L3:=hid h3
 have A3:=hid (A2.out.grow H5.out L2.out g3)
 have T3:=hid (T2.out.trans (Turn.of g3))
 have H3:=hid (here_any h3)
 rw[HLEN.out,HN.out]at H3
 have HS:Hid ((steps p L.length).length+N=E):=by unfold Hid;rw[←HE.out,Nat.add_comm]
 have H3:Hid (Calls Tryz.prog 133 #[.pointer (some ⟨b,0,none⟩)] w3 fun e w'=>e= .returned (.int .i64 E)∧w'=w3):=by
  have h1:=here_any h3
  rw[HLEN.out,HN.out]at h1
  rw[HN.out]at HE
  rw[HE.out]at h1
  exact h1
 clear h3 g3 HS
 have d2:=(cell0 A3.out.b2).1
 obtain⟨d6,d6b⟩:=cell0 A3.out.b6
 go_wp2_with fail
 refine H3.out.mono ?_
 rintro e3 w4 ⟨rfl,rfl⟩
 go_wp2_with fail
 go_end0
 refine⟨rfl,v3,N,E,L3.out.put_box (by have:=H5.out;unfold Five at this;omega) (A3.out.not_own L3.out (by simp)) _,T3.out.trans (Turn.put _ v3 b (.inr (.inl rfl)) _),A3.out.put6 H5.out E,fun _=>⟨L,[],?_,HN.out,?_⟩⟩
 ·rw[List.append_nil,HN.out]
 ·have:=HE.out;rw[HN.out]at this;exact this.symm
theorem kid_more (hg:M15.Good p) (hs:size p≤4000) (h:Lay w b v L) (h5:Five b c2 c3 c5 c6 c7) (ha:Again w b c2 c3 c5 c6 c7 r true f e) (hc:Cons true f e L p) (hl:L.length+size p≤4000):
    Calls Tryz.prog 150 #[.pointer (some ⟨c7,0,none⟩),.pointer (some ⟨c2,0,none⟩),.pointer (some ⟨c5,0,none⟩),.pointer (some ⟨c6,0,none⟩),.pointer (some ⟨c3,0,none⟩)] w (Kid b c2 c3 c5 c6 c7 r p v w L):=by
 have HA:=hid ha
 have H5:=hid h5
 have HC:=hid hc
 have HO:Hid (Calls Tryz.prog 151 #[.pointer (some ⟨b,0,none⟩),.int .i64 f,.int .i64 e] w (Laid b v w (L++steps p L.length))):=by
  obtain⟨P,R,hL,hP,he⟩:=hc rfl
  have hlen:=steps_len hg hs f
  by_cases h0:0<(steps p f).length
  ·have h1:=h
   rw[hL]at h1
   have h2:=once_any h1 h0 (by rw[←hL];omega) (fun x hx=>by
    have h3:=steps_in hg hs f x hx
    have hf:f≤L.length:=by rw[hL,←hP,List.length_append];omega
    have h4:=h3.x1
    have h5:=h3.x2
    refine⟨⟨by omega,by omega⟩,?_⟩
    by_cases c:x.kind=6
    ·have h6:=h3.y1 c;exact⟨by omega,by omega⟩
    ·have h6:=h3.y2 c;exact⟨by omega,by omega⟩)
   have h3:L.length=f+((steps p f).length+R.length):=by rw[hL,List.length_append,List.length_append,hP]
   rw[hP,←he,←steps_shift,←h3,←hL]at h2
   exact h2
  ·have hz:size p=0:=by omega
   have h1:steps p L.length= []:=List.length_eq_zero_iff.1 (by rw[steps_len hg hs,hz])
   have h2:e=f:=by omega
   rw[h1,List.append_nil,h2]
   exact once_none h (by rw[hL,←hP,List.length_append];omega)
 have d7:=(cell0 ha.b7).1
 have d2:=(cell0 ha.b2).1
 have d5:=(cell0 ha.b5).1
 have d6:=(cell0 ha.b6).1
 have HL:=hid h
 clear ha hc h hg hs hl h5
 go_enter Tryz.func150,Tryz.ntmps150
 go_wp2_with fail
 refine HO.out.mono ?_
 rintro e2 w3 ⟨rfl,v3,h3,g3⟩
 have L3:=hid h3
 have G3:=hid g3
 clear h3 g3
 go_wp2_with fail
 (first|go_end0|(simp only[Exit.inBlock,Exit.then];refine bodyPost_ret (results_none rfl _ _ _) rfl ?_)|refine bodyPost_ret (results_none rfl _ _ _) rfl ?_)
 exact⟨rfl,v3,f,e,L3.out,Turn.of G3.out,HA.out.grow H5.out HL.out G3.out,HC.out.more _⟩
theorem kid_any (IH:LayOk p) (hg:M15.Good p) (hs:size p≤4000) (h:Lay w b v L) (h5:Five b c2 c3 c5 c6 c7) (ha:Again w b c2 c3 c5 c6 c7 r laid f e) (hc:Cons laid f e L p) (hp:PAt (fun k=>k<b) w r p) (hl:L.length+size p≤4000):
    Calls Tryz.prog 150 #[.pointer (some ⟨c7,0,none⟩),.pointer (some ⟨c2,0,none⟩),.pointer (some ⟨c5,0,none⟩),.pointer (some ⟨c6,0,none⟩),.pointer (some ⟨c3,0,none⟩)] w (Kid b c2 c3 c5 c6 c7 r p v w L):=by
 cases laid with
 |false=>exact kid_first IH h ha h5 hp hl
 |true=>exact kid_more hg hs h h5 ha hc hl
end
end W15
end Go.Proofs.YtfgegjinhkgpbaaGreatDoor
