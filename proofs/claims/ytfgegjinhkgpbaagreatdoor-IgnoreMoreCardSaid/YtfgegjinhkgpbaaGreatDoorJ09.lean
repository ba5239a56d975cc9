/-
  Texts joined, in build order, each with its own comment and its own conditions: W16Put, W15In, W15Gen, W13Ref, W15Goes, W15RefRight, W15Whole, W14RefSize.
-/
import Derived.Test.YtfgegjinhkgpbaaGreatDoorTake
import Derived.Test.YtfgegjinhkgpbaaGreatDoorJ08
import Derived.Test.YtfgegjinhkgpbaaGreatDoorJ01
import Derived.Test.YtfgegjinhkgpbaaGreatDoorJ05
import Derived.Deep.OwnRows
import Derived.Test.YtfgegjinhkgpbaaGreatDoorJ07
import Derived.Deep.LoopGhost
import Derived.Deep.RegionHeld3
import Derived.BigQuiet
import Derived.Test.YtfgegjinhkgpbaaGreatDoorJ02
import Derived.Lib.MinMax
namespace Go.Proofs.YtfgegjinhkgpbaaGreatDoor
set_option maxHeartbeats 4000000
set_option maxRecDepth 100000
open Go.RowKit
open Lib (hid)
namespace W16
open Strs Recs Range
open M16 (Text steps put put_old put_new)
open W15 (own_type own_block_same)
open W14 (below_new own_same own_form cell_block)
open Kit (below_draws on)
theorem put_any {base:Nat} {w:World} {r g n:Nat} {v:Value} {M:List M16.Mark} (h:RowAt base w r v g n M) (m:M16.Mark) (hm:m.1<n) (hl:M.length<1000000):Calls Tryz.prog 140 #[.pointer (some ⟨r,0,none⟩),.agg (markA m)] w fun e w'=>e= .returned (.tuple #[])∧ ∃v',RowAt base w' r v' g n (put M m)∧Grew r g v v' w w':=by
 have H:=hid h
 have hm1:(m.1:Int)<(n:Int):=by omega
 have HB:=hid hl
 have HN:=hid hm
 by_cases c:m.1∈steps M
 ·rw[put_old c]
  have HD:Hid (decide (m.1∈steps M)=true):=by unfold Hid;simpa using c
  clear h hm hl c
  go_enter Tryz.func140,Tryz.ntmps140
  go_wp2_with (first|(refine box_mark (r:=m) rfl (.tmp 1) rfl rfl ?_;intro w1 b1 e1 p1 l1 z1;have a0:=p1.c0;have L1:=hid l1;have R1:=hid (H.out.below l1);have a1:=R1.out.c1;have a2:w1.cell? ⟨g,m.1,none⟩=some (.bool true):=by {have:=R1.out.bits.cell HN.out;rw[HD.out]at this;exact this};clear e1 p1 l1 z1))
  go_quiet (fail)
  go_wp2_with fail
  go_end0
  exact⟨rfl,v,R1.out.below (below_draws w1 _),(Grew.of L1.out).trans (Grew.of (below_draws w1 _))⟩
 ·rw[put_new c]
  have HD:Hid (decide (m.1∈steps M)=false):=by unfold Hid;simpa using c
  have HC:=hid c
  clear h hm hl c
  go_enter Tryz.func140,Tryz.ntmps140
  go_wp2_with (first|(refine box_mark (r:=m) rfl (.tmp 1) rfl rfl ?_;intro w1 b1 e1 p1 l1 z1;have a0:=p1.c0;have L1:=hid l1;have R1:=hid (H.out.below l1);have a1:=R1.out.c1;have a2:w1.cell? ⟨g,m.1,none⟩=some (.bool false):=by {have:=R1.out.bits.cell HN.out;rw[HD.out]at this;exact this};have a3:=R1.out.bits.free m.1;have P1:=hid p1;have HB0:=hid e1;clear e1 p1 l1 z1))
  have NB:Hid (v.ownBlock≠some b1):=by unfold Hid;intro q;have:=(H.out.own.lt b1 q).2;have:=HB0.out;omega
  go_quiet (fail)
  go_wp2_with fail
  go_region
  have r2:=(R1.out.below (below_draws w1 (nq+1))).set m.1 true
  have m2:MBox ((w1.drewN (nq+1)).setCell ⟨g,m.1,none⟩ (.bool true)) b1 m:=(P1.out.below (below_draws w1 (nq+1))).same (heap_setCell_other _ _ _ _ fun e=>by
   have e2:b1=g:=e
   subst e2
   exact absurd (ty_ne P1.out R1.out.bits) (by decide))
  have G2:=hid (((Grew.of L1.out).trans (Grew.of (below_draws w1 (nq+1)))).trans r2.2)
  have r3:=r2.1
  clear r2 a0 a1 a2 a3 hm1
  go_wp2_with fail
  generalize ((w1.drewN (nq+1)).setCell ⟨g,m.1,none⟩ (.bool true))=w5 at r3 m2 G2 ⊢
  have R5:=hid (r3.below (below_draws w5 1))
  have M5:=hid (m2.below (below_draws w5 1))
  have G5:=hid (G2.out.trans (Grew.of (below_draws w5 1)))
  have HB1:Hid (b1≠r):=by unfold Hid;have:=H.out.lt;have:=HB0.out;omega
  have a5:w5.drew.cell? ⟨r,0,none⟩=some v:=R5.out.c0
  clear r3 m2
  refine wp_region_held_drew (S:=fun w'=>MBox w' b1 m) (by kernel_rfl) M5.out (fun hHeld=> ?_)
  refine Take.k 0 ⟨some 20,.move (.tmp 0),_,_,_,none⟩ ?_
  refine Take.k 1 ⟨some 21,.move (.tmp 0),_,_,_,none⟩ ?_
  refine Take.k 2 ⟨some 22,.nilCheck (.tmp 21),_,_,_,none⟩ ?_
  refine Take.k 3 ⟨some 23,.fieldAddr 129 (.tmp 22) 0,_,_,_,none⟩ ?_
  refine Take.k 5 ⟨some 25,.load 132 (.tmp 3),_,_,_,none⟩ ?_ (hy:=Or.inl ⟨by rfl,by(intro w hSw;(try dsimp only at hSw);refine run_load_mark (.tmp 3) ?_ ?_ hSw.cells<;>rfl)⟩)
  refine wpAnyH_ready (rs:= [4,6]) (by kernel_rfl) (by simp) ?_
  refine AllReadyH.cons (o:=⟨some 24,.load 127 (.tmp 23),_,_,_,none⟩) rfl (fun K hK=> ?_) (AllReadyH.cons (o:=⟨some 26,.buildSlice 127 1 #[(0,.tmp 25)],_,_,_,none⟩) rfl (fun K hK=> ?_) AllReadyH.nil)
  ·go_simp
   skip
   go_wp2_with fail
   refine hK.out _ _ ?_ (fun hHeld=> ?_)
   ·exact M5.out
   clear hK K
   try simp only[Act.put,Take.a,Take.b,Take.c]
   refine wpAnyH_ready (rs:= [6]) (by kernel_rfl) (by simp) ?_
   refine AllReadyH.cons (o:=⟨some 26,.buildSlice 127 1 #[(0,.tmp 25)],_,_,_,none⟩) rfl (fun K hK=> ?_) AllReadyH.nil
   rw[if_pos (by rfl)]
   (refine wp_slice_mark (r:=m) (.tmp 25) rfl rfl ?_;intro w6 b6 e6 p6 l6 z6 o6;have P6:=hid p6;have L6:=hid l6;clear e6 p6 l6 z6 o6;have R6:=hid (R5.out.below L6.out);have M6:=hid (M5.out.below L6.out);have a6:=R6.out.c0)
   refine hK.out _ _ ?_ (fun hHeld=> ?_)
   ·exact M6.out
   clear hK K
   try simp only[Act.put,Take.a,Take.b,Take.c]
   refine wpAnyH_ready (rs:= [7]) (by kernel_rfl) (by simp) ?_
   refine AllReadyH.cons (o:=⟨some 27,.call ⟨.builtin .append, #[.tmp 24,.tmp 26], #[127,127]⟩,_,_,_,none⟩) rfl (fun K hK=> ?_) AllReadyH.nil
   rw[if_pos (by rfl)]
   (refine wp_append_mark (.tmp 24) (.tmp 26) rfl rfl rfl R6.out.own P6.out (by simp only[List.length_cons,List.length_nil];have:=HB.out;omega) (Nat.le_trans R6.out.low (Nat.le_of_lt R6.out.lt)) ?_;intro v7 w7 o7 p7;obtain⟨g7,c7,rfl,-,-,-,-⟩:=own_form o7 (by simp);have O7:=hid p7;have N7:=hid o7;have R7:=hid (R6.out.put_box p7);have M7:=hid (mbox_put p7 M6.out NB.out);clear o7 p7;obtain⟨q7,hq7⟩: ∃q7,(M++ [m]).length=q7:=⟨_,rfl⟩;have HQ:=hid hq7;rw[hq7];clear hq7;have f7:=R7.out.2;have d7:=R7.out.1)
   refine hK.out _ _ ?_ (fun hHeld=> ?_)
   ·exact M7.out
   clear hK K
   try simp only[Act.put,Take.a,Take.b,Take.c]
   refine Take.k 8 ⟨some 28,.nilCheck (.tmp 20),_,_,_,none⟩ ?_
   refine Take.k 9 ⟨some 29,.fieldAddr 129 (.tmp 28) 0,_,_,_,none⟩ ?_
   refine wpAnyH_ready (rs:= [10]) (by kernel_rfl) (by simp) ?_
   refine AllReadyH.cons (o:=⟨none,.store 127 (.tmp 29) (.tmp 27),_,_,_,none⟩) rfl (fun K hK=> ?_) AllReadyH.nil
   go_simp
   skip
   go_wp2_with fail
   refine hK.out _ _ ?_ (fun hHeld=> ?_)
   ·exact M7.out.same (heap_setCell_other w7 _ _ _ (fun e=>HB1.out e))
   clear hK K
   try simp only[Act.put,Take.a,Take.b,Take.c]
   refine wpAnyH_done (by kernel_rfl) ?_ _
   go_wp2_with fail
   go_end0
   have h9:=R6.out.more N7.out O7.out
   rw[HQ.out]at h9
   refine⟨rfl,_,h9.1.is fun i hi=> ?_,(G5.out.trans (Grew.of L6.out)).trans h9.2⟩
   unfold steps
   rw[List.map_append]
   by_cases e:i=m.1
   ·subst e;simp
   ·simp[e]
  ·rw[if_pos (by rfl)]
   (refine wp_slice_mark (r:=m) (.tmp 25) rfl rfl ?_;intro w6 b6 e6 p6 l6 z6 o6;have P6:=hid p6;have L6:=hid l6;clear e6 p6 l6 z6 o6;have R6:=hid (R5.out.below L6.out);have M6:=hid (M5.out.below L6.out);have a6:=R6.out.c0)
   refine hK.out _ _ ?_ (fun hHeld=> ?_)
   ·exact M6.out
   clear hK K
   try simp only[Act.put,Take.a,Take.b,Take.c]
   refine wpAnyH_ready (rs:= [4]) (by kernel_rfl) (by simp) ?_
   refine AllReadyH.cons (o:=⟨some 24,.load 127 (.tmp 23),_,_,_,none⟩) rfl (fun K hK=> ?_) AllReadyH.nil
   go_simp
   skip
   go_wp2_with fail
   refine hK.out _ _ ?_ (fun hHeld=> ?_)
   ·exact M6.out
   clear hK K
   try simp only[Act.put,Take.a,Take.b,Take.c]
   refine wpAnyH_ready (rs:= [7]) (by kernel_rfl) (by simp) ?_
   refine AllReadyH.cons (o:=⟨some 27,.call ⟨.builtin .append, #[.tmp 24,.tmp 26], #[127,127]⟩,_,_,_,none⟩) rfl (fun K hK=> ?_) AllReadyH.nil
   rw[if_pos (by rfl)]
   (refine wp_append_mark (.tmp 24) (.tmp 26) rfl rfl rfl R6.out.own P6.out (by simp only[List.length_cons,List.length_nil];have:=HB.out;omega) (Nat.le_trans R6.out.low (Nat.le_of_lt R6.out.lt)) ?_;intro v7 w7 o7 p7;obtain⟨g7,c7,rfl,-,-,-,-⟩:=own_form o7 (by simp);have O7:=hid p7;have N7:=hid o7;have R7:=hid (R6.out.put_box p7);have M7:=hid (mbox_put p7 M6.out NB.out);clear o7 p7;obtain⟨q7,hq7⟩: ∃q7,(M++ [m]).length=q7:=⟨_,rfl⟩;have HQ:=hid hq7;rw[hq7];clear hq7;have f7:=R7.out.2;have d7:=R7.out.1)
   refine hK.out _ _ ?_ (fun hHeld=> ?_)
   ·exact M7.out
   clear hK K
   try simp only[Act.put,Take.a,Take.b,Take.c]
   refine Take.k 8 ⟨some 28,.nilCheck (.tmp 20),_,_,_,none⟩ ?_
   refine Take.k 9 ⟨some 29,.fieldAddr 129 (.tmp 28) 0,_,_,_,none⟩ ?_
   refine wpAnyH_ready (rs:= [10]) (by kernel_rfl) (by simp) ?_
   refine AllReadyH.cons (o:=⟨none,.store 127 (.tmp 29) (.tmp 27),_,_,_,none⟩) rfl (fun K hK=> ?_) AllReadyH.nil
   go_simp
   skip
   go_wp2_with fail
   refine hK.out _ _ ?_ (fun hHeld=> ?_)
   ·exact M7.out.same (heap_setCell_other w7 _ _ _ (fun e=>HB1.out e))
   clear hK K
   try simp only[Act.put,Take.a,Take.b,Take.c]
   refine wpAnyH_done (by kernel_rfl) ?_ _
   go_wp2_with fail
   go_end0
   have h9:=R6.out.more N7.out O7.out
   rw[HQ.out]at h9
   refine⟨rfl,_,h9.1.is fun i hi=> ?_,(G5.out.trans (Grew.of L6.out)).trans h9.2⟩
   unfold steps
   rw[List.map_append]
   by_cases e:i=m.1
   ·subst e;simp
   ·simp[e]
end W16
namespace M15
open Go M14
structure Inside (lo hi:Nat) (x:Inst):Prop where
 x1:(lo:Int)≤x.x
 x2:x.x≤(hi:Int)
 y1:x.kind=6→(lo:Int)≤x.y∧x.y≤(hi:Int)
 y2:x.kind≠6→x.y=0
 k:1≤x.kind∧x.kind≤8∧x.kind≠7
theorem Inside.wider {lo hi lo' hi':Nat} {x:Inst} (h:Inside lo hi x) (h1:lo'≤lo) (h2:hi≤hi'):Inside lo' hi' x:=
 ⟨by have:=h.x1;omega,by have:=h.x2;omega,fun q=>by have:=h.y1 q;omega,h.y2,h.k⟩
theorem inside_split {lo hi x y:Nat} (h1:lo≤x∧x≤hi) (h2:lo≤y∧y≤hi):Inside lo hi (split x y):=by
 refine⟨?_,?_,fun _=> ?_,fun q=>absurd rfl q,?_⟩<;>simp only[split]<;>omega
theorem inside_jump {lo hi x:Nat} (h1:lo≤x∧x≤hi):Inside lo hi (jump x):=by
 refine⟨?_,?_,fun q=> ?_,fun _=>rfl,?_⟩
 ·simp only[jump];omega
 ·simp only[jump];omega
 ·simp[jump]at q
 ·simp only[jump];omega
theorem inside_one {lo hi a:Nat} {k:Int} (t:ByteArray) (h1:lo≤a+1∧a+1≤hi) (hk:1≤k∧k≤5):Inside lo hi (one k t a):=by
 refine⟨?_,?_,fun q=> ?_,fun _=>rfl,?_⟩
 ·simp only[one];omega
 ·simp only[one];omega
 ·simp only[one]at q;omega
 ·simp only[one];omega
theorem times_in {f:Nat→List Inst} {K:Nat} (hl: ∀a,(f a).length=K) (hf: ∀a x,x∈f a→Inside a (a+K) x) {lo hi:Nat}: ∀(n a:Nat),lo≤a→a+n*K≤hi→ ∀x,x∈times f n a→Inside lo hi x
 |0,a,_,_,x,hx=>by simp[times]at hx
 |n+1,a,h1,h2,x,hx=>by
  rw[Nat.succ_mul]at h2
  rw[times]at hx
  rcases List.mem_append.1 hx with hx|hx
  ·exact(hf a x hx).wider h1 (by omega)
  ·rw[hl]at hx
   exact times_in hl hf n (a+K) (by omega) (by omega) x hx
theorem maybe_in {f:Nat→List Inst} {K:Nat} (hl: ∀a,(f a).length=K) (hf: ∀a x,x∈f a→Inside a (a+K) x) {lo hi e:Nat} (he:lo≤e∧e≤hi): ∀(n a:Nat),lo≤a→a+n*(K+1)≤hi→ ∀x,x∈maybe f e n a→Inside lo hi x
 |0,a,_,_,x,hx=>by simp[maybe]at hx
 |n+1,a,h1,h2,x,hx=>by
  rw[Nat.succ_mul]at h2
  rw[maybe]at hx
  rcases List.mem_cons.1 hx with rfl|hx
  ·exact inside_split ⟨by omega,by omega⟩ he
  ·rcases List.mem_append.1 hx with hx|hx
   ·exact(hf (a+1) x hx).wider (by omega) (by omega)
   ·rw[hl]at hx
    exact maybe_in hl hf he n (a+1+K) (by omega) (by omega) x hx
theorem star_in {f:Nat→List Inst} {K:Nat} (hf: ∀a x,x∈f a→Inside a (a+K) x) {lo hi e a:Nat} (he:lo≤e∧e≤hi) (h1:lo≤a) (h2:a+K+2≤hi): ∀x,x∈star f e a→Inside lo hi x:=by
 intro x hx
 rw[star]at hx
 rcases List.mem_cons.1 hx with rfl|hx
 ·exact inside_split ⟨by omega,by omega⟩ he
 ·rcases List.mem_append.1 hx with hx|hx
  ·exact(hf (a+1) x hx).wider (by omega) (by omega)
  ·rw[List.mem_singleton.1 hx]
   exact inside_jump ⟨by omega,by omega⟩
theorem seqs_in {lo hi:Nat}: ∀ {ks:List Piece},(∀p,p∈ks→ ∀a x,x∈steps p a→Inside a (a+size p) x)→ ∀a,lo≤a→a+sizes ks≤hi→ ∀x,x∈seqs ks a→Inside lo hi x
 | [],_,a,_,_,x,hx=>by simp[seqs]at hx
 |p::l,h,a,h1,h2,x,hx=>by
  rw[show sizes (p::l)=size p+sizes l by simp only[sizes]]at h2
  rw[seqs]at hx
  rcases List.mem_append.1 hx with hx|hx
  ·exact(h p (by simp) a x hx).wider h1 (by omega)
  ·exact seqs_in (fun q hq=>h q (by simp[hq])) (a+size p) (by omega) (by omega) x hx
theorem alts_in {lo hi e:Nat} (he:lo≤e∧e≤hi): ∀ {ks:List Piece},(∀p,p∈ks→ ∀a x,x∈steps p a→Inside a (a+size p) x)→ ∀a,lo≤a→a+sizes ks+2*(ks.length-1)≤hi→ ∀x,x∈alts ks a e→Inside lo hi x
 | [],_,a,_,_,x,hx=>by simp[alts]at hx
 | [p],h,a,h1,h2,x,hx=>by
  rw[alts_1]at hx
  rw[show sizes [p]=size p by simp only[sizes,Nat.add_zero]]at h2
  exact(h p (by simp) a x hx).wider h1 (by omega)
 |p::q::l,h,a,h1,h2,x,hx=>by
  rw[show sizes (p::q::l)=size p+sizes (q::l) by simp only[sizes]]at h2
  simp only[List.length_cons]at h2
  rw[alts_2]at hx
  rcases List.mem_cons.1 hx with rfl|hx
  ·exact inside_split ⟨by omega,by omega⟩ ⟨by omega,by omega⟩
  ·rcases List.mem_append.1 hx with hx|hx
   ·exact(h p (by simp) (a+1) x hx).wider (by omega) (by omega)
   ·rcases List.mem_cons.1 hx with rfl|hx
    ·exact inside_jump he
    ·exact alts_in he (ks:=q::l) (fun r hr=>h r (by simp at hr;simp[hr])) (a+size p+2) (by omega) (by simp only[List.length_cons];omega) x hx
theorem steps_in {p:Piece} (h:Good p):size p≤4000→ ∀a x,x∈steps p a→Inside a (a+size p) x:=by
 induction h with
 |leaf k t h=>
  intro _ a x hx
  rw[steps_leaf h]at hx
  rw[size_1 h]
  by_cases c:k=1
  ·rw[if_pos c]at hx;simp at hx
  ·rw[if_neg c]at hx
   rw[if_neg c,List.mem_singleton.1 hx]
   exact inside_one _ ⟨by omega,by omega⟩ (by omega)
 |many k hk ks h2 hw ih=>
  intro hs a x hx
  rcases hk with rfl|rfl
  ·rw[steps_7]at hx
   rw[size_7]at hs ⊢
   exact seqs_in (fun p hp=>ih p hp (by have:=size_mem hp;omega)) a (Nat.le_refl _) (by omega) x hx
  ·rw[steps_8]at hx
   rw[size_8]at hs hx ⊢
   exact alts_in ⟨by omega,by omega⟩ (fun p hp=>ih p hp (by have:=size_mem hp;omega)) a (Nat.le_refl _) (by omega) x hx
 |rep p m t hm ht hw ih=>
  intro hs a x hx
  rw[steps_9]at hx
  by_cases hu:0<m∨t= -1∨m<t
  ·have hk:=rep_kid hs hu hm.1
   have hl:=steps_len hw hk
   have hf:=ih hk
   have hz:=size_9 no p m t
   obtain⟨E,hE⟩: ∃E,size (.mk 9 no [p] m t)=E:=⟨_,rfl⟩
   rw[hE]at hs hx hz ⊢
   unfold reps at hx
   rw[times_len hl]at hx
   by_cases c:t= -1
   ·rw[if_pos c]at hx hz
    rcases List.mem_append.1 hx with hx|hx
    ·exact times_in hl hf m.toNat a (Nat.le_refl _) (by omega) x hx
    ·exact star_in hf ⟨by omega,by omega⟩ (by omega) (by omega) x hx
   ·rw[if_neg c]at hx hz
    rcases List.mem_append.1 hx with hx|hx
    ·exact times_in hl hf m.toNat a (Nat.le_refl _) (by omega) x hx
    ·exact maybe_in hl hf ⟨by omega,by omega⟩ _ _ (by omega) (by omega) x hx
  ·have hm0:m=0:=by omega
   have ht0:t=0:=by omega
   subst hm0 ht0
   unfold reps at hx
   simp[times,maybe]at hx
end M15
namespace M15
open Go M14
open M13 (good)
def oft (t:ByteArray) (n:Nat) (m tp:Int):Bool:=decide (n=1)&&decide (t.size=0)&&decide (0≤m)&&decide (m≤100)&&decide (tp≤100)&&(decide (tp= -1)||decide (m≤tp))
def own (k:Int) (t:ByteArray) (n:Nat) (m tp:Int):Bool:=
 if k=9 then oft t n m tp
 else decide (m=0)&&(decide (tp=0)&&(if k=7∨k=8 then decide (1<n)&&decide (t.size=0)
  else decide (n=0)&&(if k=2 then decide (t.size=1)else if k=4 then good t.data.toList else decide (t.size=0)&&decide (k=1∨k=3∨k=5∨k=6))))
mutual
def gwhole:Piece→Bool
 | .mk k t ks m tp=>gwholes ks&&own k t ks.length m tp
def gwholes:List Piece→Bool
 | []=>true
 |p::l=>gwhole p&&gwholes l
end
theorem gwholes_all: ∀l:List Piece,gwholes l=l.all gwhole
 | []=>by simp[gwholes]
 |p::l=>by rw[gwholes,gwholes_all l,List.all_cons]
theorem gwhole_mk (k:Int) (t:ByteArray) (ks:List Piece) (m tp:Int):gwhole (.mk k t ks m tp)=(ks.all gwhole&&own k t ks.length m tp):=by
 rw[gwhole,gwholes_all]
theorem oft_is {t:ByteArray} {n:Nat} {m tp:Int} (h:oft t n m tp=true):n=1∧t.size=0∧(0≤m∧m≤100)∧(tp= -1∨m≤tp∧tp≤100):=by
 unfold oft at h
 simp only[Bool.and_eq_true,Bool.or_eq_true,decide_eq_true_eq]at h
 obtain⟨⟨⟨⟨⟨h1,h2⟩,h3⟩,h4⟩,h5⟩,h6⟩:=h
 exact⟨h1,h2,⟨h3,h4⟩,by omega⟩
theorem no_of {t:ByteArray} (h:t.size=0):t=no:=by
 have h1:t.data.size=0:=h
 obtain⟨d⟩:=t
 rw[show d= #[]from Array.eq_empty_of_size_eq_zero h1]
 rfl
theorem good_of {p:Piece}:gwhole p=true→Good p:=by
 induction p using ind with
 |h k t ks m tp ih=>
  intro h
  rw[gwhole_mk,Bool.and_eq_true]at h
  obtain⟨h1,h2⟩:=h
  have hk: ∀p,p∈ks→Good p:=fun p hp=>ih p hp (List.all_eq_true.1 h1 p hp)
  unfold own at h2
  by_cases c9:k=9
  ·rw[if_pos c9]at h2
   obtain⟨a1,a2,a3,a4⟩:=oft_is h2
   subst c9
   obtain⟨p,rfl⟩: ∃p,ks= [p]:=List.length_eq_one_iff.1 a1
   rw[no_of a2]
   exact .rep p m tp a3 a4 (hk p (by simp))
  ·rw[if_neg c9]at h2
   simp only[Bool.and_eq_true,decide_eq_true_eq]at h2
   obtain⟨rfl,rfl,h2⟩:=h2
   by_cases c7:k=7∨k=8
   ·rw[if_pos c7]at h2
    simp only[Bool.and_eq_true,decide_eq_true_eq]at h2
    rw[no_of h2.2]
    exact .many k c7 ks (by omega) hk
   ·rw[if_neg c7]at h2
    simp only[Bool.and_eq_true,decide_eq_true_eq]at h2
    obtain⟨h3,h4⟩:=h2
    have h5:ks= []:=List.length_eq_zero_iff.1 h3
    subst h5
    by_cases c2:k=2
    ·exact .leaf k t (by omega)
    ·rw[if_neg c2]at h4
     by_cases c4:k=4
     ·exact .leaf k t (by omega)
     ·rw[if_neg c4]at h4
      simp only[Bool.and_eq_true,decide_eq_true_eq]at h4
      exact .leaf k t (by omega)
end M15
namespace W13
open M13 Row256
open Kit (ret_str ret_bool ret_int mk_of mk_bytes ba_ext below_draws on take_next cat_bytes)
theorem infoBool:(Tryz.prog.info? 4).map (fun i=>(i.zero,i.size,i.bytes))=some (some (Value.bool false),1,1):=by kernel_rfl
theorem refMake_any {w:World} {b:Nat} {t:TypeId} {f:Nat→Bool} (h:Row w b t (bv f)):
    Calls Tryz.prog 152 #[.slice (some ⟨b,0,none⟩) 256 256] w fun e w'=>e= .returned (.string (tx f))∧w'=w:=by
 have HC:=hid h
 clear h
 go_enter Tryz.func152,Tryz.ntmps152
 go_wp2_with fail
 go_loopg [3,4] 256 (fun g s3 s4 wr=> ∃(i:Nat) (d:ByteArray),s3= .string d∧s4= .int .i64 i∧i+g=256∧Hid (d.data.toList=(List.range i).map fun j=>bit (f j))∧wr=w)
 case atStart=>exact⟨0,⟨#[]⟩,rfl,rfl,rfl,rfl,rfl⟩
 case round=>
  obtain⟨i,d,rfl,rfl,hig,hd,rfl⟩:=hrel
  cases gk with
  |zero=>
   obtain rfl:i=256:=by omega
   go_wp2_with fail
   go_ret
   exact⟨ret_str (ba_ext hd.out),rfl⟩
  |succ g=>
   have hi3:(i:Int)<256:=by omega
   have hcell:wr.cell? ⟨b,i,none⟩=some (.bool (f i)):=HC.out.cell (i:=i) (by omega)
   have hstep: ∀u:UInt8,u=bit (f i)→Hid ((d++⟨#[u]⟩).data.toList=(List.range (i+1)).map fun j=>bit (f j)):=by
    intro u hu
    unfold Hid
    rw[cat_bytes,hd.out,List.range_succ,List.map_append,hu];rfl
   have HS:=hid hstep
   clear hstep
   have hdz:d.size=i:=by rw[Lib.size_eq,hd.out,List.length_map,List.length_range]
   have hn: ¬9223372036854775807<d.size+1:=by omega
   clear hdz
   cases hf:f i with
   |true=>
    rw[hf]at hcell
    go_wp2_with fail
    go_roundg g
    case measure=>omega
    case rel=>exact⟨i+1,_,rfl,by first|rfl|simp,by omega,HS.out 49 (by rw[hf];rfl),rfl⟩
   |false=>
    rw[hf]at hcell
    go_wp2_with fail
    go_roundg g
    case measure=>omega
    case rel=>exact⟨i+1,_,rfl,by first|rfl|simp,by omega,HS.out 48 (by rw[hf];rfl),rfl⟩
theorem made_row (v:Value):madeCells #[v] 256=rowV fun _=>v:=by
 refine rowV_ext (size_madeCells _ _) fun j hj=> ?_
 simp[madeCells,hj,Nat.mod_one]
theorem make_row (w:World):(Instr.makeSlice 82 (.int .i64 256) (.int .i64 256)).run Tryz.prog w= .ok (.slice (some ⟨w.heap.size,0,none⟩) 256 256) (w.alloc (.cells (rowV (bv fun _=>false)) 4)):=by
 have h:=run_make_row' (P:=Tryz.prog) 82 4 (.bool false) 1 Tryz.underlying82 infoBool rfl .i64 .i64 256 (by omega) (by omega) w
 rw[made_row]at h
 exact h
theorem new_bools (w:World):Row (w.alloc (.cells (rowV (bv fun _=>false)) 4)) w.heap.size 4 (bv fun _=>false)∧Below w.heap.size w (w.alloc (.cells (rowV (bv fun _=>false)) 4)):=
 ⟨Row.new _ _ _,(Below.refl w.heap.size w).alloc (Nat.le_refl _) _⟩
theorem refSpan_any (a c:Nat) (hc:c<256) (w:World):Calls Tryz.prog 165 #[.int .i64 a,.int .i64 c] w fun e w'=>e= .returned (.string (tx (between a c)))∧Below w.heap.size w w':=by
 have hmk:=make_row
 have HC:=hid hc
 clear hc
 go_enter Tryz.func165,Tryz.ntmps165
 go_wp2_with fail
 have HN:=hid (new_bools w)
 generalize (w.alloc (.cells (rowV (bv fun _=>false)) 4))=w1 at HN ⊢
 clear hmk
 go_loopg [6] (c+1-a) (fun g s6 wr=> ∃i:Nat,s6= .int .i64 i∧a≤i∧(i+g=c+1∨g=0∧c<i)∧Hid (Row wr w.heap.size 4 (bv fun j=>decide (a≤j)&&decide (j<i)&&decide (j≤c)))∧Hid (Below w.heap.size w wr))
 case atStart=>
  refine⟨a,rfl,Nat.le_refl _,by omega,HN.out.1.is fun j _=>bv_eq ?_,HN.out.2⟩
  have e:(decide (a≤j)&&decide (j<a))=false:=by simp
  rw[e,Bool.false_and]
 case round=>
  obtain⟨i,rfl,hai,hig,hr,hb⟩:=hrel
  cases gk with
  |zero=>
   have hi:c<i:=by omega
   have hi2: ¬((i:Int)≤(c:Int)):=by omega
   have HI:=hid hi
   clear hi hig
   go_wp2_with fail
   refine(refMake_any hr.out).mono ?_
   rintro e w2 ⟨rfl,rfl⟩
   go_wp2_with fail
   go_ret
   refine⟨congrArg (fun x=>Ending.returned (.string x)) (tx_congr fun j _=> ?_),hb.out⟩
   unfold between
   by_cases e:j≤c
   ·have:=HI.out
    rw[decide_eq_true (show j<i by omega),Bool.and_true]
   ·rw[decide_eq_false e,Bool.and_false,Bool.and_false]
  |succ g=>
   have hi:i≤c:=by omega
   have hi2:(i:Int)≤(c:Int):=by omega
   have hi3:(i:Int)<256:=by have:=HC.out;omega
   have hcell:=hr.out.cell (i:=i) (by omega)
   have hfree:=hr.out.free i
   generalize hold:bv (fun j=>decide (a≤j)&&decide (j<i)&&decide (j≤c)) i=old at hcell
   clear hold
   go_wp2_with fail
   go_roundg g
   case measure=>omega
   case rel=>
    refine⟨i+1,by first|rfl|simp,by omega,by omega,(hr.out.put i (.bool true)).is fun j _=> ?_,hb.out.setCell (Nat.le_refl _) _⟩
    by_cases e:j=i
    ·subst e
     rw[if_pos rfl]
     refine(bv_eq (f:=fun _=>true) ?_)
     rw[decide_eq_true hai,decide_eq_true (show j<j+1 by omega),decide_eq_true hi];rfl
    ·rw[if_neg e]
     refine bv_eq ?_
     rw[show decide (j<i+1)=decide (j<i)from decide_eq_decide.2 (by omega)]
theorem byte_is (s:ByteArray) {i:Nat} (hi:i<s.size) (u:UInt8):((s[i].toNat:Int)==(u.toNat:Int))=decide (s[i]=u):=Kit.byte_test _ _
theorem good_of {s:ByteArray} (hs:s.size=256) (h: ∀j (hj:j<s.size),s[j]=48∨s[j]=49):good s.data.toList=true:=by
 unfold good
 rw[←Lib.size_eq,decide_eq_true hs,Bool.true_and,List.all_eq_true]
 intro c hc
 obtain⟨j,hj,rfl⟩:=List.mem_iff_getElem.1 hc
 have:=h j (by rw[Lib.size_eq];exact hj)
 rcases this with e|e
 ·rw[show s.data.toList[j]=48 from e];rfl
 ·rw[show s.data.toList[j]=49 from e];rfl
theorem bad_of {s:ByteArray} {j:Nat} (hj:j<s.size) (h0: ¬s[j]=48) (h1: ¬s[j]=49):good s.data.toList=false:=by
 cases h:good s.data.toList with
 |false=>rfl
 |true=>
  exfalso
  unfold good at h
  have h2:=List.all_eq_true.1 (Bool.and_eq_true_iff.1 h).2 s[j] (List.getElem_mem _)
  rw[decide_eq_false h0,decide_eq_false h1]at h2
  cases h2
theorem has_at2 {s:ByteArray} (hg:good s.data.toList=true) {i:Nat} (hi:i<s.size):((s[i].toNat:Int)==49)=has s.data.toList i:=by
 rw[has_good hg,Kit.byte_get s i hi]
 exact byte_is s hi 49
theorem refHas_any (s:ByteArray) (c:Nat) (w:World):Calls Tryz.prog 85 #[.string s,.int .i64 c] w fun e w'=>e= .returned (.bool (has s.data.toList c))∧w'=w:=by
 have h0: ¬((c:Int)<0):=by omega
 by_cases hs:s.size=256
 ·have hz:(((s.size:Nat):Int) !=256)=false:=by rw[hs];rfl
  by_cases hc:c<256
  ·have hc2: ¬(255<(c:Int)):=by omega
   have HS:=hid (And.intro hs hc)
   clear hs hc
   go_enter Tryz.func85,Tryz.ntmps85
   go_wp2_with fail
   go_loopg [5] 256 (fun g s5 wr=> ∃i:Nat,s5= .int .i64 i∧i+g=256∧Hid (∀j (hj:j<s.size),j<i→s[j]=48∨s[j]=49)∧wr=w)
   case atStart=>exact⟨0,rfl,rfl,fun j _ h=>absurd h (by omega),rfl⟩
   case round=>
    obtain⟨i,rfl,hig,hall,rfl⟩:=hrel
    cases gk with
    |zero=>
     obtain rfl:i=256:=by omega
     have hg:=good_of HS.out.1 (fun j hj=>hall.out j hj (by rw[←HS.out.1];exact hj))
     have hcs:c<s.size:=by rw[HS.out.1];exact HS.out.2
     have HV:=hid (has_at2 hg hcs)
     clear hg
     go_wp2_with fail
     go_ret
     exact⟨ret_bool HV.out,rfl⟩
    |succ g=>
     have hi:i<s.size:=by rw[HS.out.1];omega
     have hi3:(i:Int)<256:=by omega
     by_cases e0:s[i]=48
     ·have t0:(s[i].toNat:Int)=48:=by rw[e0];rfl
      have HE:=hid e0
      clear e0
      go_wp2_with fail
      go_roundg g
      case measure=>omega
      case rel=>
       refine⟨i+1,by first|rfl|simp,by omega,fun j hj h=> ?_,rfl⟩
       by_cases e:j=i
       ·subst e;exact Or.inl HE.out
       ·exact hall.out j hj (by omega)
     ·have t0: ¬(s[i].toNat:Int)=48:=fun e=>e0 (UInt8.toNat_inj.1 (show s[i].toNat=48 by omega))
      by_cases e1:s[i]=49
      ·have t1:(s[i].toNat:Int)=49:=by rw[e1];rfl
       have HE:=hid e1
       clear e0 e1 t0
       go_wp2_with fail
       go_roundg g
       case measure=>omega
       case rel=>
        refine⟨i+1,by first|rfl|simp,by omega,fun j hj h=> ?_,rfl⟩
        by_cases e:j=i
        ·subst e;exact Or.inr HE.out
        ·exact hall.out j hj (by omega)
      ·have t1: ¬(s[i].toNat:Int)=49:=fun e=>e1 (UInt8.toNat_inj.1 (show s[i].toNat=49 by omega))
       have HV:=hid (has_bad (bad_of hi e0 e1) c)
       have q0:((s[i].toNat:Int) !=48)=true:=by simpa using t0
       have q1:((s[i].toNat:Int) !=49)=true:=by simpa using t1
       clear e0 e1 t0 t1
       go_wp2_with fail
       go_ret
       exact⟨ret_bool HV.out.symm,rfl⟩
  ·have hc2:255<(c:Int):=by omega
   have HV:=hid (has_far (s:=s.data.toList) (i:=c) (by omega))
   clear hs hc
   go_enter Tryz.func85,Tryz.ntmps85
   go_wp2_with fail
   go_ret
   exact⟨ret_bool HV.out.symm,rfl⟩
 ·have hz:(((s.size:Nat):Int) !=256)=true:=by simp;omega
  have hb:good s.data.toList=false:=by unfold good;rw[←Lib.size_eq,decide_eq_false hs];rfl
  have HV:=hid (has_bad hb c)
  clear hs hb
  go_enter Tryz.func85,Tryz.ntmps85
  go_wp2_with fail
  go_ret
  exact⟨ret_bool HV.out.symm,rfl⟩
theorem refUnion_any (a b:ByteArray) (w:World):Calls Tryz.prog 135 #[.string a,.string b] w fun e w'=>e= .returned (.string (tx fun i=>has a.data.toList i||has b.data.toList i))∧Below w.heap.size w w':=by
 have hmk:=make_row
 go_enter Tryz.func135,Tryz.ntmps135
 go_wp2_with fail
 have HN:=hid (new_bools w)
 generalize (w.alloc (.cells (rowV (bv fun _=>false)) 4))=w1 at HN ⊢
 clear hmk
 go_loopg [6] 256 (fun g s6 wr=> ∃i:Nat,s6= .int .i64 i∧i+g=256∧Hid (Row wr w.heap.size 4 (bv fun j=>if j<i then has a.data.toList j||has b.data.toList j else false))∧Hid (Below w.heap.size w wr))
 case atStart=>exact⟨0,rfl,rfl,HN.out.1.is fun j _=>bv_eq (by rw[if_neg (by omega)]),HN.out.2⟩
 case round=>
  obtain⟨i,rfl,hig,hr,hb⟩:=hrel
  cases gk with
  |zero=>
   obtain rfl:i=256:=by omega
   go_wp2_with fail
   refine(refMake_any hr.out).mono ?_
   rintro e w2 ⟨rfl,rfl⟩
   go_wp2_with fail
   go_ret
   exact⟨congrArg (fun x=>Ending.returned (.string x)) (tx_congr fun j hj=>by first|rw[if_pos hj]|rw[decide_eq_true hj,Bool.true_and]),hb.out⟩
  |succ g=>
   have hi3:(i:Int)<256:=by omega
   have hcell:=hr.out.cell (i:=i) (by omega)
   have hfree:=hr.out.free i
   generalize hold:bv (fun j=>if j<i then has a.data.toList j||has b.data.toList j else false) i=old at hcell
   clear hold
   obtain⟨W0,rfl⟩: ∃W0:World,W0=wr:=⟨_,rfl⟩
   go_wp2_with fail
   refine(refHas_any _ _ _).mono ?_
   rintro e w2 ⟨rfl,rfl⟩
   cases hA:has a.data.toList i with
   |true=>
    go_wp2_with fail
    go_roundg g
    case measure=>omega
    case rel=>exact⟨i+1,by first|rfl|simp,by omega,row_step hr.out (by rw[hA];rfl),hb.out.setCell (Nat.le_refl _) _⟩
   |false=>
    go_wp2_with fail
    refine(refHas_any _ _ _).mono ?_
    rintro e w2 ⟨rfl,rfl⟩
    go_wp2_with fail
    go_roundg g
    case measure=>omega
    case rel=>exact⟨i+1,by first|rfl|simp,by omega,row_step hr.out (by rw[hA];rfl),hb.out.setCell (Nat.le_refl _) _⟩
theorem refNot_any (a:ByteArray) (w:World):Calls Tryz.prog 167 #[.string a] w fun e w'=>e= .returned (.string (tx fun i=> !has a.data.toList i))∧Below w.heap.size w w':=by
 have hmk:=make_row
 go_enter Tryz.func167,Tryz.ntmps167
 go_wp2_with fail
 have HN:=hid (new_bools w)
 generalize (w.alloc (.cells (rowV (bv fun _=>false)) 4))=w1 at HN ⊢
 clear hmk
 go_loopg [4] 256 (fun g s4 wr=> ∃i:Nat,s4= .int .i64 i∧i+g=256∧Hid (Row wr w.heap.size 4 (bv fun j=>if j<i then !has a.data.toList j else false))∧Hid (Below w.heap.size w wr))
 case atStart=>exact⟨0,rfl,rfl,HN.out.1.is fun j _=>bv_eq (by rw[if_neg (by omega)]),HN.out.2⟩
 case round=>
  obtain⟨i,rfl,hig,hr,hb⟩:=hrel
  cases gk with
  |zero=>
   obtain rfl:i=256:=by omega
   go_wp2_with fail
   refine(refMake_any hr.out).mono ?_
   rintro e w2 ⟨rfl,rfl⟩
   go_wp2_with fail
   go_ret
   exact⟨congrArg (fun x=>Ending.returned (.string x)) (tx_congr fun j hj=>by first|rw[if_pos hj]|rw[decide_eq_true hj,Bool.true_and]),hb.out⟩
  |succ g=>
   have hi3:(i:Int)<256:=by omega
   have hcell:=hr.out.cell (i:=i) (by omega)
   have hfree:=hr.out.free i
   generalize hold:bv (fun j=>if j<i then !has a.data.toList j else false) i=old at hcell
   clear hold
   go_wp2_with fail
   refine(refHas_any _ _ _).mono ?_
   rintro e w2 ⟨rfl,rfl⟩
   go_wp2_with fail
   go_roundg g
   case measure=>omega
   case rel=>exact⟨i+1,by first|rfl|simp,by omega,row_step hr.out rfl,hb.out.setCell (Nat.le_refl _) _⟩
/-! what these answer of texts of truths -/
theorem has_tx (f:Nat→Bool) {i:Nat} (h:i<256):has (tx f).data.toList i=f i:=has_text f h
theorem refUnion_tx (f g:Nat→Bool) (w:World):Calls Tryz.prog 135 #[.string (tx f),.string (tx g)] w fun e w'=>e= .returned (.string (tx fun i=>f i||g i))∧Below w.heap.size w w':=
 (refUnion_any _ _ _).mono fun _ _ h=>⟨h.1.trans (congrArg (fun x=>Ending.returned (.string x)) (tx_congr fun i hi=>by rw[has_tx f hi,has_tx g hi])),h.2⟩
theorem refNot_tx (f:Nat→Bool) (w:World):Calls Tryz.prog 167 #[.string (tx f)] w fun e w'=>e= .returned (.string (tx fun i=> !f i))∧Below w.heap.size w w':=
 (refNot_any _ _).mono fun _ _ h=>⟨h.1.trans (congrArg (fun x=>Ending.returned (.string x)) (tx_congr fun i hi=>by rw[has_tx f hi])),h.2⟩
end W13
namespace W15
open Strs Recs M15
open M13 (good)
open W14 (two_new cell_block)
open Kit (below_draws on)
theorem goes_1 (t:ByteArray) (a b:Int) (n:Nat) (w:World):Calls Tryz.prog 139 #[.agg (insA ⟨1,t,a,b⟩),.int .i64 n] w fun e w'=>e= .returned (.bool (goes 1 a b n))∧Below w.heap.size w w':=by
 have hv:goes 1 a b n=(place a n&&decide (b=0)):=rfl
 rw[hv]
 have HP:=hid (fun w=>isPlace_any a n w)
 generalize place a n=q at*
 clear hv
 cases q with
 |false=>
  rw[Bool.false_and]
  go_enter Tryz.func139,Tryz.ntmps139
  go_wp2_with (first
   |(refine box_ins (r:=⟨1,t,a,b⟩) rfl (.tmp 0) rfl rfl ?_;intro w1 b1 e1 p1 l1 z1;have c0:=p1.c0;have c2:=p1.c2;have c3:=p1.c3;have L1:=hid l1;clear e1 p1 l1 z1;simp only at c0 c2 c3))
  refine(HP.out _).mono ?_
  rintro e w2 ⟨rfl,rfl⟩
  go_wp2_with fail
  go_ret
  exact⟨rfl,L1.out⟩
 |true=>
  rw[Bool.true_and]
  by_cases hb:b=0
  ·rw[decide_eq_true hb]
   subst hb
   go_enter Tryz.func139,Tryz.ntmps139
   go_wp2_with (first
    |(refine box_ins (r:=⟨1,t,a,0⟩) rfl (.tmp 0) rfl rfl ?_;intro w1 b1 e1 p1 l1 z1;have c0:=p1.c0;have c2:=p1.c2;have c3:=p1.c3;have L1:=hid l1;clear e1 p1 l1 z1;simp only at c0 c2 c3))
   refine(HP.out _).mono ?_
   rintro e w2 ⟨rfl,rfl⟩
   go_wp2_with fail
   go_ret
   exact⟨rfl,L1.out⟩
  ·rw[decide_eq_false hb]
   have tb:(b==0)=false:=by simpa using hb
   clear hb
   go_enter Tryz.func139,Tryz.ntmps139
   go_wp2_with (first
    |(refine box_ins (r:=⟨1,t,a,b⟩) rfl (.tmp 0) rfl rfl ?_;intro w1 b1 e1 p1 l1 z1;have c0:=p1.c0;have c2:=p1.c2;have c3:=p1.c3;have L1:=hid l1;clear e1 p1 l1 z1;simp only at c0 c2 c3))
   refine(HP.out _).mono ?_
   rintro e w2 ⟨rfl,rfl⟩
   go_wp2_with fail
   go_ret
   exact⟨rfl,L1.out⟩
theorem goes_2 (t:ByteArray) (a b:Int) (n:Nat) (w:World):Calls Tryz.prog 139 #[.agg (insA ⟨2,t,a,b⟩),.int .i64 n] w fun e w'=>e= .returned (.bool (goes 2 a b n))∧Below w.heap.size w w':=by
 have hv:goes 2 a b n=(place a n&&decide (b=0)):=rfl
 rw[hv]
 have HP:=hid (fun w=>isPlace_any a n w)
 generalize place a n=q at*
 clear hv
 cases q with
 |false=>
  rw[Bool.false_and]
  go_enter Tryz.func139,Tryz.ntmps139
  go_wp2_with (first
   |(refine box_ins (r:=⟨2,t,a,b⟩) rfl (.tmp 0) rfl rfl ?_;intro w1 b1 e1 p1 l1 z1;have c0:=p1.c0;have c2:=p1.c2;have c3:=p1.c3;have L1:=hid l1;clear e1 p1 l1 z1;simp only at c0 c2 c3))
  refine(HP.out _).mono ?_
  rintro e w2 ⟨rfl,rfl⟩
  go_wp2_with fail
  go_ret
  exact⟨rfl,L1.out⟩
 |true=>
  rw[Bool.true_and]
  by_cases hb:b=0
  ·rw[decide_eq_true hb]
   subst hb
   go_enter Tryz.func139,Tryz.ntmps139
   go_wp2_with (first
    |(refine box_ins (r:=⟨2,t,a,0⟩) rfl (.tmp 0) rfl rfl ?_;intro w1 b1 e1 p1 l1 z1;have c0:=p1.c0;have c2:=p1.c2;have c3:=p1.c3;have L1:=hid l1;clear e1 p1 l1 z1;simp only at c0 c2 c3))
   refine(HP.out _).mono ?_
   rintro e w2 ⟨rfl,rfl⟩
   go_wp2_with fail
   go_ret
   exact⟨rfl,L1.out⟩
  ·rw[decide_eq_false hb]
   have tb:(b==0)=false:=by simpa using hb
   clear hb
   go_enter Tryz.func139,Tryz.ntmps139
   go_wp2_with (first
    |(refine box_ins (r:=⟨2,t,a,b⟩) rfl (.tmp 0) rfl rfl ?_;intro w1 b1 e1 p1 l1 z1;have c0:=p1.c0;have c2:=p1.c2;have c3:=p1.c3;have L1:=hid l1;clear e1 p1 l1 z1;simp only at c0 c2 c3))
   refine(HP.out _).mono ?_
   rintro e w2 ⟨rfl,rfl⟩
   go_wp2_with fail
   go_ret
   exact⟨rfl,L1.out⟩
theorem goes_3 (t:ByteArray) (a b:Int) (n:Nat) (w:World):Calls Tryz.prog 139 #[.agg (insA ⟨3,t,a,b⟩),.int .i64 n] w fun e w'=>e= .returned (.bool (goes 3 a b n))∧Below w.heap.size w w':=by
 have hv:goes 3 a b n=(place a n&&decide (b=0)):=rfl
 rw[hv]
 have HP:=hid (fun w=>isPlace_any a n w)
 generalize place a n=q at*
 clear hv
 cases q with
 |false=>
  rw[Bool.false_and]
  go_enter Tryz.func139,Tryz.ntmps139
  go_wp2_with (first
   |(refine box_ins (r:=⟨3,t,a,b⟩) rfl (.tmp 0) rfl rfl ?_;intro w1 b1 e1 p1 l1 z1;have c0:=p1.c0;have c2:=p1.c2;have c3:=p1.c3;have L1:=hid l1;clear e1 p1 l1 z1;simp only at c0 c2 c3))
  refine(HP.out _).mono ?_
  rintro e w2 ⟨rfl,rfl⟩
  go_wp2_with fail
  go_ret
  exact⟨rfl,L1.out⟩
 |true=>
  rw[Bool.true_and]
  by_cases hb:b=0
  ·rw[decide_eq_true hb]
   subst hb
   go_enter Tryz.func139,Tryz.ntmps139
   go_wp2_with (first
    |(refine box_ins (r:=⟨3,t,a,0⟩) rfl (.tmp 0) rfl rfl ?_;intro w1 b1 e1 p1 l1 z1;have c0:=p1.c0;have c2:=p1.c2;have c3:=p1.c3;have L1:=hid l1;clear e1 p1 l1 z1;simp only at c0 c2 c3))
   refine(HP.out _).mono ?_
   rintro e w2 ⟨rfl,rfl⟩
   go_wp2_with fail
   go_ret
   exact⟨rfl,L1.out⟩
  ·rw[decide_eq_false hb]
   have tb:(b==0)=false:=by simpa using hb
   clear hb
   go_enter Tryz.func139,Tryz.ntmps139
   go_wp2_with (first
    |(refine box_ins (r:=⟨3,t,a,b⟩) rfl (.tmp 0) rfl rfl ?_;intro w1 b1 e1 p1 l1 z1;have c0:=p1.c0;have c2:=p1.c2;have c3:=p1.c3;have L1:=hid l1;clear e1 p1 l1 z1;simp only at c0 c2 c3))
   refine(HP.out _).mono ?_
   rintro e w2 ⟨rfl,rfl⟩
   go_wp2_with fail
   go_ret
   exact⟨rfl,L1.out⟩
theorem goes_4 (t:ByteArray) (a b:Int) (n:Nat) (w:World):Calls Tryz.prog 139 #[.agg (insA ⟨4,t,a,b⟩),.int .i64 n] w fun e w'=>e= .returned (.bool (goes 4 a b n))∧Below w.heap.size w w':=by
 have hv:goes 4 a b n=(place a n&&decide (b=0)):=rfl
 rw[hv]
 have HP:=hid (fun w=>isPlace_any a n w)
 generalize place a n=q at*
 clear hv
 cases q with
 |false=>
  rw[Bool.false_and]
  go_enter Tryz.func139,Tryz.ntmps139
  go_wp2_with (first
   |(refine box_ins (r:=⟨4,t,a,b⟩) rfl (.tmp 0) rfl rfl ?_;intro w1 b1 e1 p1 l1 z1;have c0:=p1.c0;have c2:=p1.c2;have c3:=p1.c3;have L1:=hid l1;clear e1 p1 l1 z1;simp only at c0 c2 c3))
  refine(HP.out _).mono ?_
  rintro e w2 ⟨rfl,rfl⟩
  go_wp2_with fail
  go_ret
  exact⟨rfl,L1.out⟩
 |true=>
  rw[Bool.true_and]
  by_cases hb:b=0
  ·rw[decide_eq_true hb]
   subst hb
   go_enter Tryz.func139,Tryz.ntmps139
   go_wp2_with (first
    |(refine box_ins (r:=⟨4,t,a,0⟩) rfl (.tmp 0) rfl rfl ?_;intro w1 b1 e1 p1 l1 z1;have c0:=p1.c0;have c2:=p1.c2;have c3:=p1.c3;have L1:=hid l1;clear e1 p1 l1 z1;simp only at c0 c2 c3))
   refine(HP.out _).mono ?_
   rintro e w2 ⟨rfl,rfl⟩
   go_wp2_with fail
   go_ret
   exact⟨rfl,L1.out⟩
  ·rw[decide_eq_false hb]
   have tb:(b==0)=false:=by simpa using hb
   clear hb
   go_enter Tryz.func139,Tryz.ntmps139
   go_wp2_with (first
    |(refine box_ins (r:=⟨4,t,a,b⟩) rfl (.tmp 0) rfl rfl ?_;intro w1 b1 e1 p1 l1 z1;have c0:=p1.c0;have c2:=p1.c2;have c3:=p1.c3;have L1:=hid l1;clear e1 p1 l1 z1;simp only at c0 c2 c3))
   refine(HP.out _).mono ?_
   rintro e w2 ⟨rfl,rfl⟩
   go_wp2_with fail
   go_ret
   exact⟨rfl,L1.out⟩
theorem goes_5 (t:ByteArray) (a b:Int) (n:Nat) (w:World):Calls Tryz.prog 139 #[.agg (insA ⟨5,t,a,b⟩),.int .i64 n] w fun e w'=>e= .returned (.bool (goes 5 a b n))∧Below w.heap.size w w':=by
 have hv:goes 5 a b n=(place a n&&decide (b=0)):=rfl
 rw[hv]
 have HP:=hid (fun w=>isPlace_any a n w)
 generalize place a n=q at*
 clear hv
 cases q with
 |false=>
  rw[Bool.false_and]
  go_enter Tryz.func139,Tryz.ntmps139
  go_wp2_with (first
   |(refine box_ins (r:=⟨5,t,a,b⟩) rfl (.tmp 0) rfl rfl ?_;intro w1 b1 e1 p1 l1 z1;have c0:=p1.c0;have c2:=p1.c2;have c3:=p1.c3;have L1:=hid l1;clear e1 p1 l1 z1;simp only at c0 c2 c3))
  refine(HP.out _).mono ?_
  rintro e w2 ⟨rfl,rfl⟩
  go_wp2_with fail
  go_ret
  exact⟨rfl,L1.out⟩
 |true=>
  rw[Bool.true_and]
  by_cases hb:b=0
  ·rw[decide_eq_true hb]
   subst hb
   go_enter Tryz.func139,Tryz.ntmps139
   go_wp2_with (first
    |(refine box_ins (r:=⟨5,t,a,0⟩) rfl (.tmp 0) rfl rfl ?_;intro w1 b1 e1 p1 l1 z1;have c0:=p1.c0;have c2:=p1.c2;have c3:=p1.c3;have L1:=hid l1;clear e1 p1 l1 z1;simp only at c0 c2 c3))
   refine(HP.out _).mono ?_
   rintro e w2 ⟨rfl,rfl⟩
   go_wp2_with fail
   go_ret
   exact⟨rfl,L1.out⟩
  ·rw[decide_eq_false hb]
   have tb:(b==0)=false:=by simpa using hb
   clear hb
   go_enter Tryz.func139,Tryz.ntmps139
   go_wp2_with (first
    |(refine box_ins (r:=⟨5,t,a,b⟩) rfl (.tmp 0) rfl rfl ?_;intro w1 b1 e1 p1 l1 z1;have c0:=p1.c0;have c2:=p1.c2;have c3:=p1.c3;have L1:=hid l1;clear e1 p1 l1 z1;simp only at c0 c2 c3))
   refine(HP.out _).mono ?_
   rintro e w2 ⟨rfl,rfl⟩
   go_wp2_with fail
   go_ret
   exact⟨rfl,L1.out⟩
theorem goes_6 (t:ByteArray) (a b:Int) (n:Nat) (w:World):Calls Tryz.prog 139 #[.agg (insA ⟨6,t,a,b⟩),.int .i64 n] w fun e w'=>e= .returned (.bool (goes 6 a b n))∧Below w.heap.size w w':=by
 have hv:goes 6 a b n=(place a n&&place b n):=rfl
 rw[hv]
 have HP:=hid (fun w=>isPlace_any a n w)
 have HQ:=hid (fun w=>isPlace_any b n w)
 generalize place a n=q at*
 generalize place b n=q2 at*
 clear hv
 cases q with
 |false=>
  rw[Bool.false_and]
  go_enter Tryz.func139,Tryz.ntmps139
  go_wp2_with (first
   |(refine box_ins (r:=⟨6,t,a,b⟩) rfl (.tmp 0) rfl rfl ?_;intro w1 b1 e1 p1 l1 z1;have c0:=p1.c0;have c2:=p1.c2;have c3:=p1.c3;have L1:=hid l1;clear e1 p1 l1 z1;simp only at c0 c2 c3))
  refine(HP.out _).mono ?_
  rintro e w2 ⟨rfl,rfl⟩
  go_wp2_with fail
  go_ret
  exact⟨rfl,L1.out⟩
 |true=>
  rw[Bool.true_and]
  go_enter Tryz.func139,Tryz.ntmps139
  go_wp2_with (first
   |(refine box_ins (r:=⟨6,t,a,b⟩) rfl (.tmp 0) rfl rfl ?_;intro w1 b1 e1 p1 l1 z1;have c0:=p1.c0;have c2:=p1.c2;have c3:=p1.c3;have L1:=hid l1;clear e1 p1 l1 z1;simp only at c0 c2 c3))
  refine(HP.out _).mono ?_
  rintro e w2 ⟨rfl,rfl⟩
  go_wp2_with fail
  refine(HQ.out _).mono ?_
  rintro e w2 ⟨rfl,rfl⟩
  go_wp2_with fail
  go_ret
  exact⟨rfl,L1.out⟩
theorem goes_7 (t:ByteArray) (a b:Int) (n:Nat) (w:World):Calls Tryz.prog 139 #[.agg (insA ⟨7,t,a,b⟩),.int .i64 n] w fun e w'=>e= .returned (.bool (goes 7 a b n))∧Below w.heap.size w w':=by
 have hv:goes 7 a b n=(decide (a=0)&&decide (b=0)):=rfl
 rw[hv]
 clear hv
 by_cases ha:a=0
 ·rw[decide_eq_true ha,Bool.true_and]
  subst ha
  by_cases hb:b=0
  ·rw[decide_eq_true hb]
   subst hb
   go_enter Tryz.func139,Tryz.ntmps139
   go_wp2_with (first
    |(refine box_ins (r:=⟨7,t,0,0⟩) rfl (.tmp 0) rfl rfl ?_;intro w1 b1 e1 p1 l1 z1;have c0:=p1.c0;have c2:=p1.c2;have c3:=p1.c3;have L1:=hid l1;clear e1 p1 l1 z1;simp only at c0 c2 c3))
   go_ret
   exact⟨rfl,L1.out⟩
  ·rw[decide_eq_false hb]
   have tb:(b==0)=false:=by simpa using hb
   clear hb
   go_enter Tryz.func139,Tryz.ntmps139
   go_wp2_with (first
    |(refine box_ins (r:=⟨7,t,0,b⟩) rfl (.tmp 0) rfl rfl ?_;intro w1 b1 e1 p1 l1 z1;have c0:=p1.c0;have c2:=p1.c2;have c3:=p1.c3;have L1:=hid l1;clear e1 p1 l1 z1;simp only at c0 c2 c3))
   go_ret
   exact⟨rfl,L1.out⟩
 ·rw[decide_eq_false ha,Bool.false_and]
  have ta:(a==0)=false:=by simpa using ha
  clear ha
  go_enter Tryz.func139,Tryz.ntmps139
  go_wp2_with (first
   |(refine box_ins (r:=⟨7,t,a,b⟩) rfl (.tmp 0) rfl rfl ?_;intro w1 b1 e1 p1 l1 z1;have c0:=p1.c0;have c2:=p1.c2;have c3:=p1.c3;have L1:=hid l1;clear e1 p1 l1 z1;simp only at c0 c2 c3))
  go_ret
  exact⟨rfl,L1.out⟩
theorem goes_8 (t:ByteArray) (a b:Int) (n:Nat) (w:World):Calls Tryz.prog 139 #[.agg (insA ⟨8,t,a,b⟩),.int .i64 n] w fun e w'=>e= .returned (.bool (goes 8 a b n))∧Below w.heap.size w w':=by
 have hv:goes 8 a b n=(place a n&&decide (b=0)):=rfl
 rw[hv]
 have HP:=hid (fun w=>isPlace_any a n w)
 generalize place a n=q at*
 clear hv
 cases q with
 |false=>
  rw[Bool.false_and]
  go_enter Tryz.func139,Tryz.ntmps139
  go_wp2_with (first
   |(refine box_ins (r:=⟨8,t,a,b⟩) rfl (.tmp 0) rfl rfl ?_;intro w1 b1 e1 p1 l1 z1;have c0:=p1.c0;have c2:=p1.c2;have c3:=p1.c3;have L1:=hid l1;clear e1 p1 l1 z1;simp only at c0 c2 c3))
  refine(HP.out _).mono ?_
  rintro e w2 ⟨rfl,rfl⟩
  go_wp2_with fail
  go_ret
  exact⟨rfl,L1.out⟩
 |true=>
  rw[Bool.true_and]
  by_cases hb:b=0
  ·rw[decide_eq_true hb]
   subst hb
   go_enter Tryz.func139,Tryz.ntmps139
   go_wp2_with (first
    |(refine box_ins (r:=⟨8,t,a,0⟩) rfl (.tmp 0) rfl rfl ?_;intro w1 b1 e1 p1 l1 z1;have c0:=p1.c0;have c2:=p1.c2;have c3:=p1.c3;have L1:=hid l1;clear e1 p1 l1 z1;simp only at c0 c2 c3))
   refine(HP.out _).mono ?_
   rintro e w2 ⟨rfl,rfl⟩
   go_wp2_with fail
   go_ret
   exact⟨rfl,L1.out⟩
  ·rw[decide_eq_false hb]
   have tb:(b==0)=false:=by simpa using hb
   clear hb
   go_enter Tryz.func139,Tryz.ntmps139
   go_wp2_with (first
    |(refine box_ins (r:=⟨8,t,a,b⟩) rfl (.tmp 0) rfl rfl ?_;intro w1 b1 e1 p1 l1 z1;have c0:=p1.c0;have c2:=p1.c2;have c3:=p1.c3;have L1:=hid l1;clear e1 p1 l1 z1;simp only at c0 c2 c3))
   refine(HP.out _).mono ?_
   rintro e w2 ⟨rfl,rfl⟩
   go_wp2_with fail
   go_ret
   exact⟨rfl,L1.out⟩
theorem goes_other {k:Int} (hk: ¬(1≤k∧k≤8)) (t:ByteArray) (a b:Int) (n:Nat) (w:World):Calls Tryz.prog 139 #[.agg (insA ⟨k,t,a,b⟩),.int .i64 n] w fun e w'=>e= .returned (.bool (goes k a b n))∧Below w.heap.size w w':=by
 have hv:goes k a b n=false:=by
  unfold goes
  rw[if_neg (by omega),if_neg (by omega),if_neg hk]
 rw[hv]
 have t1:(k==1)=false:=by simp;omega
 have t2:(k==2)=false:=by simp;omega
 have t3:(k==3)=false:=by simp;omega
 have t4:(k==4)=false:=by simp;omega
 have t5:(k==5)=false:=by simp;omega
 have t6:(k==6)=false:=by simp;omega
 have t7:(k==7)=false:=by simp;omega
 have t8:(k==8)=false:=by simp;omega
 clear hv hk
 go_enter Tryz.func139,Tryz.ntmps139
 go_wp2_with (first
  |(refine box_ins (r:=⟨k,t,a,b⟩) rfl (.tmp 0) rfl rfl ?_;intro w1 b1 e1 p1 l1 z1;have c0:=p1.c0;have c2:=p1.c2;have c3:=p1.c3;have L1:=hid l1;clear e1 p1 l1 z1;simp only at c0 c2 c3))
 go_ret
 exact⟨rfl,L1.out⟩
theorem goesOn_any (x:Inst) (n:Nat) (w:World):Calls Tryz.prog 139 #[.agg (insA x),.int .i64 n] w fun e w'=>e= .returned (.bool (goes x.kind x.x x.y n))∧Below w.heap.size w w':=by
 obtain⟨k,t,a,b⟩:=x
 by_cases hk:1≤k∧k≤8
 ·have:k=1∨k=2∨k=3∨k=4∨k=5∨k=6∨k=7∨k=8:=by omega
  rcases this with rfl|rfl|rfl|rfl|rfl|rfl|rfl|rfl
  ·exact goes_1 t a b n w
  ·exact goes_2 t a b n w
  ·exact goes_3 t a b n w
  ·exact goes_4 t a b n w
  ·exact goes_5 t a b n w
  ·exact goes_6 t a b n w
  ·exact goes_7 t a b n w
  ·exact goes_8 t a b n w
 ·exact goes_other hk t a b n w
theorem all_take {α:Type} {f:α→Bool} {L:List α} {i:Nat} (hi:i<L.length):(L.take (i+1)).all f=((L.take i).all f&&f L[i]):=by
 rw[List.take_succ_eq_append_getElem hi,List.all_append]
 simp only[List.all_cons,List.all_nil,Bool.and_true]
theorem all_no {α:Type} {f:α→Bool} {L:List α} {i:Nat} (hi:i<L.length) (h:f L[i]=false):L.all f=false:=by
 rw[List.all_eq_false]
 exact⟨L[i],List.getElem_mem hi,by simp[h]⟩
theorem right_any {w:World} {B:Nat} {v:Value} {L:List Inst} (h:Prg B w v L) (hB:B≤w.heap.size):Calls Tryz.prog 112 #[v] w fun e w'=>e= .returned (.bool (rightP L))∧Below w.heap.size w w':=by
 obtain⟨A,c,rfl,h1,h2⟩:=h.form
 have H:=hid h
 unfold maxLen at h2
 have HC:=hid (show L.length≤c∧c≤9223372036854775807 from⟨h1,h2⟩)
 have HBB:=hid hB
 obtain⟨R,hR⟩: ∃R,rightP L=R:=⟨_,rfl⟩
 rw[hR]
 have HR:=hid hR
 clear h hB hR
 go_enter Tryz.func112,Tryz.ntmps112
 go_wp2_with fail
 clear h1 h2
 go_loopg [7] L.length (fun gk s7 wr=> ∃i:Nat,s7= .int .i64 i∧Hid (i+gk=L.length)∧Hid ((L.take i).all (okI L.length)=true)∧Hid (Below w.heap.size w wr))
 case atStart=>exact⟨0,rfl,by unfold Hid;omega,by unfold Hid;simp,Below.refl _ _⟩
 case round=>
  obtain⟨i,rfl,hig,HOK,LB⟩:=hrel
  have hc1:=HC.out.1
  have hc2:=HC.out.2
  by_cases hi:i<L.length
  ·have ti:(i:Int)<(L.length:Int):=by omega
   obtain⟨b1,o1,hl1,rfl,hb1,e1⟩:=H.out.flat_ insC_len (by decide) hi
   obtain⟨x,hx⟩: ∃x,L[i]=x:=⟨_,rfl⟩
   rw[hx]at e1
   have E1:Hid (∀j,j<4→wr.cell? ⟨b1,o1+i*4+j,none⟩=(insC x)[j]?):=fun j hj=>(cell_block (LB.out.block b1 (Nat.lt_of_lt_of_le hb1 HBB.out))).trans (e1 j hj)
   have HT:=hid (isText_any x)
   have HG:=hid (goesOn_any x L.length)
   have HALL:=all_take (f:=okI L.length) hi
   have HNO:=fun q=>all_no (f:=okI L.length) hi q
   rw[hx]at HALL HNO
   have hok:okI L.length x=(txtOk x.kind x.text&&goes x.kind x.x x.y L.length):=rfl
   rw[hok]at HALL HNO
   obtain⟨q1,hq1⟩: ∃q1,txtOk x.kind x.text=q1:=⟨_,rfl⟩
   obtain⟨q2,hq2⟩: ∃q2,goes x.kind x.x x.y L.length=q2:=⟨_,rfl⟩
   rw[hq1,hq2]at HALL HNO
   rw[hq1]at HT
   rw[hq2]at HG
   have HAL:=hid HALL
   have HN2:=hid HNO
   have hwi:Hid (wrap64 ((i:Int)+1)=((i+1:Nat):Int)):=by unfold Hid wrap64;omega
   have HI2:=hid hi
   clear e1 hb1 hx hl1 HALL HNO hok hq1 hq2 hi
   have RF:Hid ((q1&&q2)=false→rightP L=false):=fun q=>by
    unfold rightP
    rw[HN2.out q,Bool.false_and]
   cases q1 with
   |false=>
    go_wp2_with (first
     |(refine load_ins rfl (.tmp 9) rfl rfl (r:=x) E1.out ?_)
     |(refine alloc_ins rfl rfl ?_;intro w3 b3 e3 p3 l3 z3)
     |(refine store_ins (r:=x) rfl (.tmp 4) (.tmp 10) rfl rfl rfl p3 ?_;intro w4 p4 l4 z4;have L4:=hid (two_new l3 l4 e3);have P4:=hid p4;clear e3 p3 l3 z3 p4 l4 z4)
     |(refine load_ibox rfl (.tmp 4) rfl rfl (r:=x) P4.out ?_))
    refine(HT.out _).mono ?_
    rintro e w5 ⟨rfl,l5⟩
    have L5:=hid (LB.out.trans ((on L4.out l5).mono LB.out.size))
    clear l5
    go_wp2_with fail
    go_ret
    exact⟨by rw[←HR.out,RF.out rfl];rfl,L5.out⟩
   |true=>
    go_wp2_with (first
     |(refine load_ins rfl (.tmp 9) rfl rfl (r:=x) E1.out ?_)
     |(refine alloc_ins rfl rfl ?_;intro w3 b3 e3 p3 l3 z3)
     |(refine store_ins (r:=x) rfl (.tmp 4) (.tmp 10) rfl rfl rfl p3 ?_;intro w4 p4 l4 z4;have L4:=hid (two_new l3 l4 e3);have P4:=hid p4;clear e3 p3 l3 z3 p4 l4 z4)
     |(refine load_ibox rfl (.tmp 4) rfl rfl (r:=x) P4.out ?_))
    refine(HT.out _).mono ?_
    rintro e w5 ⟨rfl,l5⟩
    have P5:=hid (P4.out.below l5)
    have b0:=P5.out.c0
    have b1':=P5.out.c1
    have b2:=P5.out.c2
    have b3':=P5.out.c3
    have W5:=hid (on L4.out l5)
    clear l5
    go_wp2_with fail
    refine(HG.out _).mono ?_
    rintro e w6 ⟨rfl,l6⟩
    have L6:=hid (LB.out.trans ((on W5.out l6).mono LB.out.size))
    clear l6 b0 b1' b2 b3'
    cases q2 with
    |false=>
     go_wp2_with fail
     go_ret
     exact⟨by rw[←HR.out,RF.out rfl];rfl,L6.out⟩
    |true=>
     cases gk with
     |zero=>exact absurd hig.out (by have:=HI2.out;omega)
     |succ g=>
      go_wp2_with fail
      go_roundg g
      case measure=>omega
      case rel=>exact⟨i+1,by first|rfl|exact congrArg (Value.int .i64) hwi.out,by have:=hig.out;unfold Hid;omega,by unfold Hid;rw[HAL.out,HOK.out];rfl,L6⟩
  ·have ti: ¬(i:Int)<(L.length:Int):=by omega
   have hie:i=L.length:=by have:=hig.out;omega
   have HV:Hid (rightP L=decide (0<L.length)):=by
    have:=HOK.out
    rw[hie,List.take_length]at this
    unfold Hid rightP
    rw[this,Bool.true_and]
   clear hie hi
   go_wp2_with fail
   go_ret
   exact⟨by rw[←HR.out,HV.out];rfl,LB.out⟩
end W15
namespace M15
open Go
end M15
namespace W15
open Strs Recs M15
open M13 (good has)
open W14 (two_new cell_block)
open Kit (below_draws on)
end W15
namespace W15
open Strs Recs M15
open M13 (good has)
open M14 (Piece)
open W14 (Raw rawA rawC PAt PBox PLow box_arg load_piece load_at cell_block)
open Kit (below_draws on)
def Asks (f:Nat) (r:Raw) (v:Bool):Prop:= ∀w,Calls Tryz.prog f #[.agg (rawA r)] w fun e w'=>e= .returned (.bool v)∧Below w.heap.size w w'
theorem roft_any (k:Int) (t:ByteArray) (A:Option Addr) (n c:Nat) (m tp:Int) (hc:n≤c∧c≤9223372036854775807):Asks 48 ⟨k,t,A,n,c,m,tp⟩ (oft t n m tp):=by
 intro w
 have hc1:=hc.1
 have hc2:=hc.2
 clear hc
 unfold oft
 by_cases h1:n=1
 ·rw[decide_eq_true h1]
  subst h1
  by_cases h2:t.size=0
  ·rw[decide_eq_true h2]
   have te:=Kit.list_none (s:=t) (by omega)
   have te2:=Kit.list_nil (s:=t) (by omega)
   clear h2
   by_cases h3:0≤m
   ·rw[decide_eq_true h3]
    have x1: ¬m<0:=by omega
    by_cases h4:m≤100
    ·rw[decide_eq_true h4]
     have x2: ¬100<m:=by omega
     by_cases h5:tp≤100
     ·rw[decide_eq_true h5]
      have x3: ¬100<tp:=by omega
      clear h3 h4 h5
      by_cases h6:tp= -1
      ·rw[decide_eq_true h6]
       subst h6
       go_enter Tryz.func48,Tryz.ntmps48
       go_wp2_with (first
        |(refine box_arg (r:=⟨k,t,A,1,c,m,-1⟩) rfl (.tmp 0) rfl rfl ?_;intro w1 b1 e1 p1 l1 z1;have a1:=p1.c1;have a2:=p1.c2;have a3:=p1.c3;have a4:=p1.c4;have L1:=hid l1;clear e1 p1 l1 z1;simp only at a1 a2 a3 a4))
       go_ret
       exact⟨rfl,L1.out⟩
      ·rw[decide_eq_false h6]
       have x4:(tp== -1)=false:=by simpa using h6
       clear h6
       by_cases h7:m≤tp
       ·rw[decide_eq_true h7]
        go_enter Tryz.func48,Tryz.ntmps48
        go_wp2_with (first
         |(refine box_arg (r:=⟨k,t,A,1,c,m,tp⟩) rfl (.tmp 0) rfl rfl ?_;intro w1 b1 e1 p1 l1 z1;have a1:=p1.c1;have a2:=p1.c2;have a3:=p1.c3;have a4:=p1.c4;have L1:=hid l1;clear e1 p1 l1 z1;simp only at a1 a2 a3 a4))
        go_ret
        exact⟨rfl,L1.out⟩
       ·rw[decide_eq_false h7]
        go_enter Tryz.func48,Tryz.ntmps48
        go_wp2_with (first
         |(refine box_arg (r:=⟨k,t,A,1,c,m,tp⟩) rfl (.tmp 0) rfl rfl ?_;intro w1 b1 e1 p1 l1 z1;have a1:=p1.c1;have a2:=p1.c2;have a3:=p1.c3;have a4:=p1.c4;have L1:=hid l1;clear e1 p1 l1 z1;simp only at a1 a2 a3 a4))
        go_ret
        exact⟨rfl,L1.out⟩
     ·rw[decide_eq_false h5]
      have x3:100<tp:=by omega
      clear h3 h4 h5
      rw[show(true&&true&&true&&true&&false&&(decide (tp= -1)||decide (m≤tp)))=false from rfl]
      go_enter Tryz.func48,Tryz.ntmps48
      go_wp2_with (first
       |(refine box_arg (r:=⟨k,t,A,1,c,m,tp⟩) rfl (.tmp 0) rfl rfl ?_;intro w1 b1 e1 p1 l1 z1;have a1:=p1.c1;have a2:=p1.c2;have a3:=p1.c3;have a4:=p1.c4;have L1:=hid l1;clear e1 p1 l1 z1;simp only at a1 a2 a3 a4))
      go_ret
      exact⟨rfl,L1.out⟩
    ·rw[decide_eq_false h4]
     have x2:100<m:=by omega
     clear h3 h4
     rw[show(true&&true&&true&&false&&decide (tp≤100)&&(decide (tp= -1)||decide (m≤tp)))=false from rfl]
     go_enter Tryz.func48,Tryz.ntmps48
     go_wp2_with (first
      |(refine box_arg (r:=⟨k,t,A,1,c,m,tp⟩) rfl (.tmp 0) rfl rfl ?_;intro w1 b1 e1 p1 l1 z1;have a1:=p1.c1;have a2:=p1.c2;have a3:=p1.c3;have a4:=p1.c4;have L1:=hid l1;clear e1 p1 l1 z1;simp only at a1 a2 a3 a4))
     go_ret
     exact⟨rfl,L1.out⟩
   ·rw[decide_eq_false h3]
    have x1:m<0:=by omega
    clear h3
    rw[show(true&&true&&false&&decide (m≤100)&&decide (tp≤100)&&(decide (tp= -1)||decide (m≤tp)))=false from rfl]
    go_enter Tryz.func48,Tryz.ntmps48
    go_wp2_with (first
     |(refine box_arg (r:=⟨k,t,A,1,c,m,tp⟩) rfl (.tmp 0) rfl rfl ?_;intro w1 b1 e1 p1 l1 z1;have a1:=p1.c1;have a2:=p1.c2;have a3:=p1.c3;have a4:=p1.c4;have L1:=hid l1;clear e1 p1 l1 z1;simp only at a1 a2 a3 a4))
    go_ret
    exact⟨rfl,L1.out⟩
  ·rw[decide_eq_false h2]
   have te:=Kit.list_full (s:=t) (by omega)
   have te2:=Kit.list_ne (s:=t) (by omega)
   clear h2
   rw[show(true&&false&&decide (0≤m)&&decide (m≤100)&&decide (tp≤100)&&(decide (tp= -1)||decide (m≤tp)))=false from rfl]
   go_enter Tryz.func48,Tryz.ntmps48
   go_wp2_with (first
    |(refine box_arg (r:=⟨k,t,A,1,c,m,tp⟩) rfl (.tmp 0) rfl rfl ?_;intro w1 b1 e1 p1 l1 z1;have a1:=p1.c1;have a2:=p1.c2;have a3:=p1.c3;have a4:=p1.c4;have L1:=hid l1;clear e1 p1 l1 z1;simp only at a1 a2 a3 a4))
   go_ret
   exact⟨rfl,L1.out⟩
 ·rw[decide_eq_false h1]
  have tn:((n:Int) !=1)=true:=by simp;omega
  clear h1
  rw[show(false&&decide (t.size=0)&&decide (0≤m)&&decide (m≤100)&&decide (tp≤100)&&(decide (tp= -1)||decide (m≤tp)))=false from rfl]
  go_enter Tryz.func48,Tryz.ntmps48
  go_wp2_with (first
   |(refine box_arg (r:=⟨k,t,A,n,c,m,tp⟩) rfl (.tmp 0) rfl rfl ?_;intro w1 b1 e1 p1 l1 z1;have a1:=p1.c1;have a2:=p1.c2;have a3:=p1.c3;have a4:=p1.c4;have L1:=hid l1;clear e1 p1 l1 z1;simp only at a1 a2 a3 a4))
  go_ret
  exact⟨rfl,L1.out⟩
end W15
namespace W14
open Strs Recs M14
open Kit (below_draws on)
theorem size_leaf {k:Int} (hk:k=1∨k=2∨k=3∨k=4∨k=5∨k=6) (t:ByteArray):size (M14.leaf k t)=if k=1 then 0 else 1:=by
 unfold M14.leaf size
 by_cases h1:k=1
 ·simp[h1]
 ·simp[h1,show 2≤k∧k≤6 by omega]
def SizeTo (w:World) (p:Piece) (e:Ending) (w':World):Prop:=e= .returned (.int .i64 (size p))∧Below w.heap.size w w'
theorem size_rep (p:Piece) (M:Nat) (t:Int):size (.mk 9 ⟨#[]⟩ [p] M t)=min 4001 (if t= -1 then M*size p+size p+2 else M*size p+(t-M).toNat*(size p+1)):=by
 have h1:sizes [p]=size p:=by simp[sizes]
 conv=>lhs;unfold size
 rw[if_neg (by decide),if_neg (by decide),if_neg (by decide),if_neg (by decide),h1,Int.toNat_natCast]
theorem mul_small {a b:Nat} (ha:a≤100) (hb:b≤4002):a*b≤400200:=Nat.le_trans (Nat.mul_le_mul ha hb) (by decide)
def Often (m t:Int):Prop:=(0≤m∧m≤100)∧(t= -1∨m≤t∧t≤100)
theorem roften_any {m t:Int} (h:Often m t) {A:Option Addr} {c:Nat} (hc:1≤c∧c≤9223372036854775807) (w:World):Calls Tryz.prog 48 #[.agg (rawA ⟨9,⟨#[]⟩,A,1,c,m,t⟩)] w fun e w'=>e= .returned (.bool true)∧Below w.heap.size w w':=by
 obtain⟨⟨hm0,hm1⟩,ht⟩:=h
 have hc1:=hc.1
 have hc2:=hc.2
 have x1: ¬m<0:=by omega
 have x2: ¬100<m:=by omega
 have x3: ¬100<t:=by omega
 by_cases q:t= -1
 ·subst q
  clear hc x3 hm0 hm1 ht
  go_enter Tryz.func48,Tryz.ntmps48
  go_wp2_with (first
   |(refine box_arg (r:=⟨9,⟨#[]⟩,A,1,c,m,-1⟩) rfl (.tmp 0) rfl rfl ?_;intro w1 b1 e1 p1 l1 z1;have a1:=p1.c1;have a2:=p1.c2;have a3:=p1.c3;have a4:=p1.c4;have L1:=hid l1;clear e1 p1 l1 z1;simp only at a1 a2 a3 a4))
  go_ret
  exact⟨rfl,L1.out⟩
 ·have x4:(t== -1)=false:=by simpa using q
  have x5:m≤t:=by omega
  clear hc hm0 hm1 ht q
  go_enter Tryz.func48,Tryz.ntmps48
  go_wp2_with (first
   |(refine box_arg (r:=⟨9,⟨#[]⟩,A,1,c,m,t⟩) rfl (.tmp 0) rfl rfl ?_;intro w1 b1 e1 p1 l1 z1;have a1:=p1.c1;have a2:=p1.c2;have a3:=p1.c3;have a4:=p1.c4;have L1:=hid l1;clear e1 p1 l1 z1;simp only at a1 a2 a3 a4))
  go_ret
  exact⟨rfl,L1.out⟩
end W14
end Go.Proofs.YtfgegjinhkgpbaaGreatDoor
